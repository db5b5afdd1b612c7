/-
  The walk of Sorts: any run of a stack.
  The walk of the reference's Sorts.
  The walks of the reference's alike and find.
  The walk of PermFinds.
-/
import Derived.Test.YtcklgdcjedikoaaKnuM
import Derived.Test.YtcklgdcjedikoaaSortW
import Derived.Laws.IdiomStrings
import Derived.Test.YtcklgdcjedikoaaChkI
import Derived.Test.YtcklgdcjedikoaaRaw
import Derived.Deep.DeepCutAuto
import Derived.Test.YtcklgdcjedikoaaPKnuth
namespace Go.Proofs.Ytcklgdcjedikoaa
open Go.RowKit

/-- The letters of a string, as numbers. -/
def lettersOf (s : ByteArray) : List Nat := s.data.toList.map fun b => b.toNat
theorem lettersOf_length (s : ByteArray) : (lettersOf s).length = s.size := by
  unfold lettersOf
  rw [List.length_map, Array.length_toList]
  rfl
theorem lettersOf_get (s : ByteArray) (k : Nat) (h : k < s.size) : (lettersOf s).getD k 0 = (s[k]'h).toNat := by
  have e : s.data[k]? = some (s[k]'h) := Array.getElem?_eq_getElem (show k < s.data.size from h)
  unfold lettersOf
  rw [List.getD_eq_getElem?_getD, List.getElem?_map, Array.getElem?_toList, e]
  rfl
theorem lettersOf_lt (s : ByteArray) (k : Nat) : (lettersOf s).getD k 0 < 256 := by
  by_cases h : k < s.size
  · rw [lettersOf_get s k h]
    exact UInt8.toNat_lt _
  · rw [List.getD_eq_getElem?_getD, List.getElem?_eq_none (by rw [lettersOf_length]; omega)]
    decide

theorem bytesRow_get (s : ByteArray) (cap k : Nat) (h : k < s.size) : (bytesRow s cap)[k]? = some (.int .u8 ((lettersOf s).getD k 0 : Nat)) := by
  have hk : k < s.data.size := h
  have e : s.data[k]? = some (s[k]'h) := Array.getElem?_eq_getElem hk
  rw [lettersOf_get s k h]
  unfold bytesRow
  rw [Array.getElem?_append_left (by simpa using hk), Array.getElem?_map, e]
  rfl

theorem own_is_cells' {w : World} {B size n : Nat} {e : TypeId} {v : Value} {xs : List Value} (h : w.ownsRow B e size v n xs) : ∀ k, v.ownBlock = some k → B ≤ k := fun k hk => (h.lt k hk).1

/-- What holds at the head of a round of Sorts. -/
structure RunHead (w : World) (B g b off hb : Nat) (ho : Obj) (p l : List Nat) (k i nx : Nat) (st : List Nat) (A : Option Addr) (c : Nat) (sv : Value) (wr : World) : Prop where
  steps : runTo p l k = some (i, st, nx)
  rest : i < p.length → A = some ⟨b, off + i, none⟩ ∧ p.length - i ≤ c ∧ c ≤ 9223372036854775807
  bytes : wr.heap[hb]? = some ho
  mem : SortMem w B g (.slice A (p.length - i) c) sv nx st.length st (.slice none 0 0) 0 [] wr

set_option maxRecDepth 100000 in
set_option maxHeartbeats 4000000 in
theorem sorts_any (b off n cap : Nat) (p : List Nat) (s : ByteArray) (w : World) (hS : Sl .i64 w (some ⟨b, off, none⟩) n p) (hp : IsPerm p) (hn : n ≤ 60) (h0 : 0 < n) (hcap : n ≤ cap) (hc9 : cap ≤ 9223372036854775807) (hsz : s.size ≤ 100000) :
    Calls Try.prog 31 #[.slice (some ⟨b, off, none⟩) n cap, .string s] w fun e w' => e = .returned (.bool (sortsF p (lettersOf s))) ∧ Below w.heap.size w w' := by
  have hl := hS.len
  subst hl
  have Hchk := Lib.hid (check_perm b off p.length cap p w hS hp hn h0)
  obtain ⟨b', off', e, hs, hcl⟩ := hS.at h0
  injection e with e
  injection e with e1 e2
  subst e1 e2
  have Hcl := Lib.hid hcl
  have hconv := fun W => run_bytes_of_string (P := Try.prog) W 9 95 5 s Try.underlying9 Try.underlying95 Try.underlying5
  clear hcl
  obtain ⟨l, hl⟩ : ∃ l, lettersOf s = l := ⟨_, rfl⟩
  rw [hl]
  have HL := Lib.hid hl
  clear hl
  go_enter Try.func31, Try.ntmps31
  go_wp2_with (go_at_call 16; refine Hchk.out.mono ?_; rintro e w1 ⟨rfl, hb1⟩)
  have hs1 := hb1.size
  obtain ⟨cp, hcp⟩ : ∃ cp, grownCap (w1.alloc (.cells #[.slice (some ⟨b, off, none⟩) p.length cap, .slice none 0 0, .int .i64 0] 94)) s.size 0 5 = cp := ⟨_, rfl⟩
  rw [hcp]
  have hmem0 : SortMem w (w1.heap.size + 1 + 1) w1.heap.size (.slice (some ⟨b, off, none⟩) p.length cap) (.slice none 0 0) 0 0 [] (.slice none 0 0) 0 [] ((w1.alloc (.cells #[.slice (some ⟨b, off, none⟩) p.length cap, .slice none 0 0, .int .i64 0] 94)).alloc (.cells (bytesRow s cp) 5 ((bytesRow s cp).size, (bytesRow s cp).size + 1))).drew :=
    ⟨(Below.heap_alloc (w1.alloc (.cells #[.slice (some ⟨b, off, none⟩) p.length cap, .slice none 0 0, .int .i64 0] 94)) _ _ (by simp)).trans (Blk.new w1 _ _), ⟨rfl, .inl ⟨rfl, rfl⟩⟩, ⟨rfl, .inl ⟨rfl, rfl⟩⟩, (fun _ h => by cases h),
      below_drewN ((hb1.trans ((below_new' w1 _).mono hs1)).trans ((Below.refl _ _).alloc (by simp; omega) _)) 1, by show _ ≤ ((w1.alloc (.cells #[.slice (some ⟨b, off, none⟩) p.length cap, .slice none 0 0, .int .i64 0] 94)).alloc (.cells (bytesRow s cp) 5 ((bytesRow s cp).size, (bytesRow s cp).size + 1))).heap.size; simp, ⟨hs1, by omega⟩⟩
  have hbytes0 : ((w1.alloc (.cells #[.slice (some ⟨b, off, none⟩) p.length cap, .slice none 0 0, .int .i64 0] 94)).alloc (.cells (bytesRow s cp) 5 ((bytesRow s cp).size, (bytesRow s cp).size + 1))).drew.heap[w1.heap.size + 1]? = some (.cells (bytesRow s cp) 5 ((bytesRow s cp).size, (bytesRow s cp).size + 1)) := by
    have := World.alloc_heap_new (w1.alloc (.cells #[.slice (some ⟨b, off, none⟩) p.length cap, .slice none 0 0, .int .i64 0] 94)) (.cells (bytesRow s cp) 5 ((bytesRow s cp).size, (bytesRow s cp).size + 1))
    rw [World.size_alloc] at this
    exact this
  have hll := lettersOf_length s
  have hx : ∀ (W : World), W.heap[w1.heap.size + 1]? = some (.cells (bytesRow s cp) 5 ((bytesRow s cp).size, (bytesRow s cp).size + 1)) → ∀ k, k < s.size → W.cell? ⟨w1.heap.size + 1, k, none⟩ = some (.int .u8 ((lettersOf s).getD k 0 : Nat)) := fun W hW k hk => by
    rw [cell_of_row W _ k _ _ _ hW]
    exact bytesRow_get s cp k hk
  have Hx := Lib.hid hx
  clear hx hcp hconv hb1
  generalize ((w1.alloc (.cells #[.slice (some ⟨b, off, none⟩) p.length cap, .slice none 0 0, .int .i64 0] 94)).alloc (.cells (bytesRow s cp) 5 ((bytesRow s cp).size, (bytesRow s cp).size + 1))).drew = W0 at *
  generalize (.cells (bytesRow s cp) 5 ((bytesRow s cp).size, (bytesRow s cp).size + 1) : Obj) = ho at *
  rw [HL.out] at hll Hx
  obtain ⟨len, hlen⟩ : ∃ len, s.size = len := ⟨_, rfl⟩
  rw [hlen] at hll Hx hsz ⊢
  have Hll := Lib.hid hll
  clear hll hlen
  have hhb : w1.heap.size + 1 < w1.heap.size + 1 + 1 := by omega
  have hbg : b ≠ w1.heap.size ∧ b < w1.heap.size + 1 + 1 := by omega
  generalize hB : w1.heap.size + 1 + 1 = B at *
  have Hhb := Lib.hid (show w1.heap.size + 1 ≠ w1.heap.size by omega)
  generalize hH : w1.heap.size + 1 = hb at *
  generalize w1.heap.size = g at *
  clear hB hH
  go_loopw [17] (fun kv wr => ∃ (k i nx : Nat) (st : List Nat) (A : Option Addr) (c : Nat) (sv : Value), k ≤ len ∧ kv = .int .i64 k ∧ RunHead w B g b off hb ho p l k i nx st A c sv wr) (fun kv _ => len - (intOf kv).toNat)
  case atStart => exact ⟨0, 0, 0, [], some ⟨b, off, none⟩, cap, .slice none 0 0, Nat.zero_le _, rfl, rfl, fun _ => ⟨rfl, hcap, hc9⟩, hbytes0, hmem0⟩
  case round =>
    obtain ⟨k, i, nx, st, A, c, sv, hk, rfl, hsteps, hrest, hbytes, hmem⟩ := hrel
    obtain ⟨q1, q2, q3⟩ := runTo_count k i nx st hsteps
    have Hsteps := Lib.hid hsteps
    have hB := hmem.size
    have hbase := hmem.base
    clear hsteps
    have Q := Lib.hid (show i + nx = k ∧ st.length + nx = i from ⟨q1, q2⟩)
    have hst60 : st.length ≤ 60 := by omega
    have hnx60 : nx ≤ 60 := by omega
    clear q1 q2
    by_cases hlt : k < len
    · have cx := Hx.out wr hbytes k hlt
      have hnext := runTo_succ Hsteps.out
      have Hnone := Lib.hid (fun (h : runTo p l (k + 1) = none) => sortsF_none (show k + 1 ≤ l.length by rw [Hll.out]; exact hlt) h)
      have Hnext := Lib.hid hnext
      clear hnext
      have Hmem := Lib.hid hmem
      by_cases h105 : l.getD k 0 = 105
      · by_cases hi : i < p.length
        · obtain ⟨rfl, hc1, hc2⟩ := hrest hi
          obtain ⟨m', hm'⟩ : ∃ m', p.length - i = m' + 1 := ⟨p.length - i - 1, by omega⟩
          have hmem' := hmem
          rw [hm'] at hmem' hc1
          have hcx := (hmem.bel.cell (p := ⟨b, off + i, none⟩) hs).trans (Hcl.out i hi)
          have Hst := Lib.hid (Hnext.out.trans (step_put h105 hi))
          have Hput := Lib.hid (put_some B g b (off + i) m' c (p.getD i 0) nx st.length sv st wr hmem'.sorter hc1 hc2 hcx hmem'.stack hB hbase.2 hbg.2 hbg.1 (by omega))
          have Hmem' := Lib.hid hmem'
          have Hm' := Lib.hid hm'
          have hrow := (own_is_cells' hmem'.stack)
          rw [h105] at cx
          generalize p.getD i 0 = x at *
          clear hmem hmem' hcx hrest hm' h105
          go_wp2_with (go_at_call 73; refine Hput.out.mono ?_; rintro e w2 ⟨A', c', gg, cg, hP⟩; obtain rfl := hP.ret)
          have hmem2 := Hmem'.out.put hP
          have hrest2 := hP.rest
          have hby2 : w2.heap[hb]? = some ho := (hP.grow.block hb (by omega) Hhb.out (fun e => by have := hrow hb e.symm; omega)).trans hbytes
          go_roundw
          case rel => exact ⟨k + 1, i + 1, nx, st ++ [x], A', c', _, by omega, by go_num, ⟨Hst.out, fun h => by
            have := Hm'.out
            obtain ⟨e1, e2, e3⟩ := hrest2 (by omega)
            exact ⟨by rw [e1, Nat.add_assoc], by omega, e3⟩, hby2, by
            rw [List.length_append, List.length_singleton, show p.length - (i + 1) = m' by have := Hm'.out; omega]
            exact hmem2⟩⟩
          case measure => simp [intOf]; omega
        · have hres := Hnone.out (Hnext.out.trans (step_full h105 hi))
          have Hres := Lib.hid hres
          have hi0 : p.length - i = 0 := by omega
          have hmem' := hmem
          rw [hi0] at hmem'
          have Hput := Lib.hid (put_none g A c sv nx wr hmem'.sorter)
          rw [h105] at cx
          have hbel := hmem.bel
          clear hmem hmem' hres h105 hrest
          go_wp2_with (go_at_call 73; refine Hput.out.mono ?_; rintro e w2 ⟨rfl, rfl⟩)
          go_ret
          exact ⟨ret_bool Hres.out.symm, hbel⟩
      · have hd1 : (((l.getD k 0 : Nat) : Int) == 105) = false := by rw [beq_eq_false_iff_ne]; omega
        by_cases h111 : l.getD k 0 = 111
        · cases hcalm : calm st nx with
          | true =>
            have hres := Hnone.out (Hnext.out.trans (step_stay h111 hcalm))
            have Hres := Lib.hid hres
            have Htake : Hid (Calls Try.prog 74 #[.pointer (some ⟨g, 0, none⟩)] wr fun e w' => e = .returned (.bool false) ∧ Drew wr w') := by
              rcases Nat.eq_zero_or_pos st.length with h | h
              · obtain ⟨A2, c2, rfl⟩ := own_slice' hmem.stack
                rw [h] at hmem
                exact take_none g A2 c2 _ nx wr hmem.sorter
              · obtain ⟨g2, c2, rfl⟩ := own_pos hmem.stack h
                obtain ⟨k2, hk2⟩ : ∃ k2, st.length = k2 + 1 := ⟨st.length - 1, by omega⟩
                have hcc : wr.cell? ⟨g2, st.length - 1, none⟩ = _ := own_num hmem.stack (st.length - 1) (by omega)
                have hne : st.getD (st.length - 1) 0 ≠ nx := by
                  rcases calm_cases hcalm with e | e
                  · omega
                  · exact e
                have hso := hmem.sorter
                rw [hk2] at hso hcc hne
                exact take_no g g2 c2 k2 _ nx _ wr hso hcc (by omega) hne
            rw [h111] at cx
            have hbel := hmem.bel
            clear hmem hres h111 hrest hd1 hcalm
            go_wp2_with (go_at_call 74; refine Htake.out.mono ?_; rintro e w2 ⟨rfl, q2, rfl⟩)
            go_ret
            exact ⟨ret_bool Hres.out.symm, below_drewN hbel q2⟩
          | false =>
            have hcc := calm_false hcalm
            have Hst := Lib.hid (Hnext.out.trans (step_take h111 hcalm))
            obtain ⟨g2, c2, rfl⟩ := own_pos hmem.stack hcc.1
            obtain ⟨k2, hk2⟩ : ∃ k2, st.length = k2 + 1 := ⟨st.length - 1, by omega⟩
            rw [hk2, Nat.add_sub_cancel] at Hst
            have hcell := own_num hmem.stack (st.length - 1) (by omega)
            rw [hcc.2, hk2, Nat.add_sub_cancel] at hcell
            have hcap2 := own_capd hmem.stack
            have hmem2 := hmem
            rw [hk2] at hmem2 hcap2
            have Htake := Lib.hid (take_yes g g2 c2 k2 nx _ wr hmem2.sorter hcell (by omega) hcap2 (by omega))
            have Hk2 := Lib.hid hk2
            have Hmem2 := Lib.hid hmem2
            have Hrest := Lib.hid hrest
            rw [h111] at cx
            clear hk2 hcell hcc hmem hmem2 h111 hd1 hcalm hrest
            go_wp2_with (go_at_call 74; refine Htake.out.mono ?_; rintro e w2 ⟨rfl, hs2, ht2⟩)
            have hmem3 := Hmem2.out.take hs2 ht2
            have hby2 : w2.heap[hb]? = some ho := (ht2.block hb (by omega) Hhb.out (fun e => by cases e)).trans hbytes
            go_roundw
            case rel => exact ⟨k + 1, i, nx + 1, st.take k2, A, c, _, by omega, by go_num, ⟨Hst.out, Hrest.out, hby2, by rw [List.length_take, show min k2 st.length = k2 by have := Hk2.out; omega]; exact hmem3⟩⟩
            case measure => simp [intOf]; omega
        · have hd2 : (((l.getD k 0 : Nat) : Int) == 111) = false := by rw [beq_eq_false_iff_ne]; omega
          have hres := Hnone.out (Hnext.out.trans (step_other h105 h111))
          have Hres := Lib.hid hres
          have hbel := hmem.bel
          generalize l.getD k 0 = y at *
          clear hmem hres h105 h111 hrest
          go_wp2_with fail
          go_ret
          exact ⟨ret_bool Hres.out.symm, hbel⟩
    · obtain rfl : k = len := by omega
      have hres := sortsF_some (p := p) (l := l) (by rw [Hll.out]; exact Hsteps.out)
      have Hres := Lib.hid hres
      obtain ⟨s0, s1, s2, -, -, -⟩ := sort_three hmem.sorter
      have hbel := hmem.bel
      have hd : ((nx : Int) == (p.length : Int)) = decide (nx = p.length) := by
        by_cases e : nx = p.length
        · rw [e]; simp
        · rw [decide_eq_false e, beq_eq_false_iff_ne]; omega
      generalize decide (nx = p.length) = r at *
      clear hmem hres hrest
      go_wp2_with fail
      go_ret
      exact ⟨ret_bool Hres.out.symm, hbel⟩

end Go.Proofs.Ytcklgdcjedikoaa

namespace Go.Proofs.Ytcklgdcjedikoaa
open Go.RowKit

theorem string_at (s : ByteArray) (k : Nat) (h : k < s.size) (W : World) : (Instr.index 9 (.string s) (.int .i64 (k : Int))).run Try.prog W = .ok (.int .u8 ((lettersOf s).getD k 0 : Nat)) W := by
  rw [run_index_string W 9 s .i64 (k : Int) Try.underlying9, dif_pos (by omega), lettersOf_get s k h]
  rfl

set_option maxRecDepth 100000 in
set_option maxHeartbeats 4000000 in
theorem rsorts_any (b off n cap : Nat) (p : List Nat) (s : ByteArray) (w : World) (hS : Sl .i64 w (some ⟨b, off, none⟩) n p) (hp : IsPerm p) (hn : n ≤ 60) (h0 : 0 < n) (hsz : s.size ≤ 100000) :
    Calls Try.prog 50 #[.slice (some ⟨b, off, none⟩) n cap, .string s] w fun e w' => e = .returned (.bool (sortsF p (lettersOf s))) ∧ Below w.heap.size w w' := by
  have hl := hS.len
  subst hl
  have hb60 : ∀ x ∈ p, x ≤ 1000 := fun x hx => by
    obtain ⟨i, hi, rfl⟩ := List.getElem_of_mem hx
    have := hp.lt hi
    simp only [List.getD_eq_getElem?_getD, List.getElem?_eq_getElem hi, Option.getD_some] at this
    omega
  have Hchk : Hid (Calls Try.prog 15 #[.slice (some ⟨b, off, none⟩) p.length cap] w fun e w' => e = .returned (.int .i64 0) ∧ Below w.heap.size w w') :=
    (rcheck_any (some ⟨b, off, none⟩) p.length cap _ w (hS.zl hb60)).mono fun e w' ⟨h, hb⟩ => by
      rcases h with ⟨_, he⟩ | ⟨h, _⟩
      · exact ⟨he, hb⟩
      · exact absurd (chk_of_perm hp (by omega) hn) h
  obtain ⟨b', off', e, hs, hcl⟩ := hS.at h0
  injection e with e
  injection e with e1 e2
  subst e1 e2
  have Hcl := Lib.hid hcl
  have hll := lettersOf_length s
  have hidx := string_at s
  obtain ⟨l, hl⟩ : ∃ l, lettersOf s = l := ⟨_, rfl⟩
  rw [hl] at hll hidx ⊢
  have Hidx := Lib.hid hidx
  have Hll := Lib.hid hll
  obtain ⟨i0, hi, hz0, hz1, hz2⟩ := info_parts info_int'
  clear hcl hl hidx hb60 hll
  by_cases hlong : s.size = 2 * p.length
  · have hd : ((s.size : Int) != 2 * (p.length : Int)) = false := by rw [bne_eq_false_iff_eq]; omega
    have hw : IntKind.i64.wrap (2 * (p.length : Int)) = 2 * (p.length : Int) := IntWalk.i64_in _ (by omega)
    have Hlong := Lib.hid hlong
    clear hlong
    go_enter Try.func50, Try.ntmps50
    go_wp2_with (go_at_call 15; refine Hchk.out.mono ?_; rintro e w1 ⟨rfl, hb1⟩)
    have Hlen := Lib.hid (show s.size ≤ 100000 from hsz)
    go_loopw [5, 6, 7, 8] (fun v iv nv kv wr => ∃ (k i nx : Nat) (st : List Nat), k ≤ s.size ∧ iv = .int .i64 i ∧ nv = .int .i64 nx ∧ kv = .int .i64 k ∧ runTo p l k = some (i, st, nx) ∧ wr.ownsRow w.heap.size 3 1 v st.length (nums .i64 st) ∧ Below w.heap.size w wr) (fun _ _ _ kv _ => s.size - (intOf kv).toNat)
    case atStart => exact ⟨0, 0, 0, [], Nat.zero_le _, rfl, rfl, rfl, rfl, World.ownsRow_nil _ _ _ _, hb1⟩
    case round =>
      obtain ⟨k, i, nx, st, hk, rfl, rfl, rfl, hsteps, hown, hbel⟩ := hrel
      obtain ⟨q1, q2, q3⟩ := runTo_count k i nx st hsteps
      have Hsteps := Lib.hid hsteps
      clear hsteps
      have Q := Lib.hid (show i + nx = k ∧ st.length + nx = i from ⟨q1, q2⟩)
      have hst60 : st.length ≤ 60 := by omega
      have hnx60 : nx ≤ 60 := by omega
      clear q1 q2
      have hbs := hbel.size
      obtain ⟨A, c, rfl⟩ := own_slice' hown
      by_cases hlt : k < s.size
      · have hx := fun W => Hidx.out k hlt W
        have hnext := runTo_succ Hsteps.out
        have Hnone := Lib.hid (fun (h : runTo p l (k + 1) = none) => sortsF_none (show k + 1 ≤ l.length by rw [Hll.out]; exact hlt) h)
        have Hnext := Lib.hid hnext
        clear hnext
        by_cases h105 : l.getD k 0 = 105
        · by_cases hi' : i < p.length
          · have hcx := (hbel.cell (p := ⟨b, off + i, none⟩) hs).trans (Hcl.out i hi')
            have Hst := Lib.hid (Hnext.out.trans (step_put h105 hi'))
            have hdi : ((i : Int) == (p.length : Int)) = false := by rw [beq_eq_false_iff_ne]; omega
            rw [h105] at hx
            generalize p.getD i 0 = x at *
            clear h105
            go_wp2_with (first | (at_builtin; refine Hid.out ?_))
            refine Lib.hid ?_
            refine wpList_append_own _ rfl _ _ 22 rfl w.heap.size 3 i0 (.int .i64 0) 1 8 Try.underlying22 hi hz0 hz1 hz2 rfl (by decide) (.slice A st.length c) st.length (nums .i64 st) rfl (hown.alloc _) ⟨wr.heap.size, 0, none⟩ 1 1 [.int .i64 (x : Nat)] rfl rfl (cell_one_new _ _ _) (one_cell _ rfl) (by unfold maxLen; omega) (by omega) (alloc_size_le _ _ hbs) ?_
            intro v2 w2 hown2 hgrow2 _
            rw [nums_snoc] at hown2
            have hb2 := hbel.trans (own_below hown hbs hgrow2)
            obtain ⟨g2, c2, rfl⟩ := own_pos hown2 (by omega)
            have Hown2 := Lib.hid hown2
            clear hown2 hgrow2 hown hbel
            go_wp2_with fail
            go_roundw
            case rel => exact ⟨k + 1, i + 1, nx, st ++ [x], by omega, by go_num, rfl, by go_num, Hst.out, by rw [List.length_append, List.length_singleton]; exact Hown2.out, hb2⟩
            case measure => simp [intOf]; omega
          · have hres := Hnone.out (Hnext.out.trans (step_full h105 hi'))
            have Hres := Lib.hid hres
            have hdi : ((i : Int) == (p.length : Int)) = true := by rw [beq_iff_eq]; omega
            rw [h105] at hx
            clear hres h105 hown
            go_wp2_with fail
            go_ret
            exact ⟨ret_bool Hres.out.symm, hbel⟩
        · have hd1 : (((l.getD k 0 : Nat) : Int) == 105) = false := by rw [beq_eq_false_iff_ne]; omega
          by_cases h111 : l.getD k 0 = 111
          · rw [h111] at hx
            cases hcalm : calm st nx with
            | true =>
              have hres := Hnone.out (Hnext.out.trans (step_stay h111 hcalm))
              have Hres := Lib.hid hres
              clear hres h111 hd1
              rcases Nat.eq_zero_or_pos st.length with h | h
              · have hdz : (((st.length : Nat) : Int) == 0) = true := by rw [h]; rfl
                clear hown hcalm h
                go_wp2_with fail
                go_ret
                exact ⟨ret_bool Hres.out.symm, hbel⟩
              · obtain ⟨g2, c2, e⟩ := own_pos hown h
                injection e with e1 e2 e3
                subst e1 e3
                have hcc : wr.cell? ⟨g2, st.length - 1, none⟩ = _ := own_num hown (st.length - 1) (by omega)
                have hne : st.getD (st.length - 1) 0 ≠ nx := by
                  rcases calm_cases hcalm with e | e
                  · omega
                  · exact e
                have hdz : (((st.length : Nat) : Int) == 0) = false := by rw [beq_eq_false_iff_ne]; omega
                have hdn : (((st.getD (st.length - 1) 0 : Nat) : Int) != (nx : Int)) = true := by rw [bne_iff_ne]; omega
                generalize st.getD (st.length - 1) 0 = y at *
                clear hown hcalm
                go_wp2_with fail
                go_ret
                exact ⟨ret_bool Hres.out.symm, hbel⟩
            | false =>
              have hcc := calm_false hcalm
              have Hst := Lib.hid (Hnext.out.trans (step_take h111 hcalm))
              obtain ⟨g2, c2, e⟩ := own_pos hown hcc.1
              injection e with e1 e2 e3
              subst e1 e3
              have hcell : wr.cell? ⟨g2, st.length - 1, none⟩ = _ := own_num hown (st.length - 1) (by omega)
              rw [hcc.2] at hcell
              have hcap2 := own_capd hown
              have hdz : (((st.length : Nat) : Int) == 0) = false := by rw [beq_eq_false_iff_ne]; omega
              have hdn : ((nx : Int) != (nx : Int)) = false := by simp
              have Hown3 := Lib.hid (own_take hown (m := st.length - 1) (by omega))
              have hpos := hcc.1
              clear hcc h111 hd1 hcalm hown
              go_wp2_with fail
              go_roundw
              case rel => exact ⟨k + 1, i, nx + 1, st.take (st.length - 1), by omega, rfl, by go_num, by go_num, Hst.out, by rw [List.length_take, show min (st.length - 1) st.length = st.length - 1 by omega]; exact Hown3.out, hbel⟩
              case measure => simp [intOf]; omega
          · have hd2 : (((l.getD k 0 : Nat) : Int) == 111) = false := by rw [beq_eq_false_iff_ne]; omega
            have hres := Hnone.out (Hnext.out.trans (step_other h105 h111))
            have Hres := Lib.hid hres
            generalize l.getD k 0 = y at *
            clear hres h105 h111 hown
            go_wp2_with fail
            go_ret
            exact ⟨ret_bool Hres.out.symm, hbel⟩
      · obtain rfl : k = s.size := by omega
        have hres := sortsF_some (p := p) (l := l) (by rw [Hll.out]; exact Hsteps.out)
        have Hres := Lib.hid hres
        have hd : ((nx : Int) == (p.length : Int)) = decide (nx = p.length) := by
          by_cases e : nx = p.length
          · rw [e]; simp
          · rw [decide_eq_false e, beq_eq_false_iff_ne]; omega
        generalize decide (nx = p.length) = r at *
        clear hres hown
        go_wp2_with fail
        go_ret
        exact ⟨ret_bool Hres.out.symm, hbel⟩
  · have hres : sortsF p l = false := sortsF_long (by rw [Hll.out]; exact hlong)
    have Hres := Lib.hid hres
    have hd : ((s.size : Int) != 2 * (p.length : Int)) = true := by rw [bne_iff_ne]; omega
    have hw : IntKind.i64.wrap (2 * (p.length : Int)) = 2 * (p.length : Int) := IntWalk.i64_in _ (by omega)
    clear hres hlong
    go_enter Try.func50, Try.ntmps50
    go_wp2_with (go_at_call 15; refine Hchk.out.mono ?_; rintro e w1 ⟨rfl, hb1⟩)
    go_ret
    exact ⟨ret_bool Hres.out.symm, hb1⟩

end Go.Proofs.Ytcklgdcjedikoaa

namespace Go.Proofs.Ytcklgdcjedikoaa
open Go.RowKit

/-- Whether values at positions are in the order of size of q. -/
def alikeB (p q at' : List Nat) : Bool := (List.range at'.length).all fun i => (List.range i).all fun k => decide (p.getD (at'.getD i 0) 0 < p.getD (at'.getD k 0) 0) == decide (q.getD i 0 < q.getD k 0)
theorem alikeB_iff {p q at' : List Nat} : alikeB p q at' = true ↔ ∀ i, i < at'.length → ∀ k, k < i → (p.getD (at'.getD i 0) 0 < p.getD (at'.getD k 0) 0 ↔ q.getD i 0 < q.getD k 0) := by
  unfold alikeB
  rw [List.all_eq_true]
  constructor
  · intro h i hi k hk
    have := List.all_eq_true.1 (h i (List.mem_range.2 hi)) k (List.mem_range.2 hk)
    simpa using this
  · intro h i hi
    rw [List.all_eq_true]
    intro k hk
    have := h i (List.mem_range.1 hi) k (List.mem_range.1 hk)
    simpa using this

theorem alikeB_snoc {p q at' : List Nat} {i : Nat} (hp : IsPerm p) (hq : IsPerm q) (hi : i < p.length) (hl : ∀ k, k < at'.length → at'.getD k 0 < i) (hq' : at'.length < q.length) : alikeB p q (at' ++ [i]) = (alikeB p q at' && fits p q at' i) := by
  rw [Bool.eq_iff_iff, Bool.and_eq_true, alikeB_iff, alikeB_iff, fits_iff]
  have hlen : (at' ++ [i]).length = at'.length + 1 := by simp
  have flip : ∀ j, j < at'.length → ((p.getD i 0 < p.getD (at'.getD j 0) 0 ↔ q.getD at'.length 0 < q.getD j 0) ↔ (p.getD (at'.getD j 0) 0 < p.getD i 0 ↔ q.getD j 0 < q.getD at'.length 0)) := fun j hj => by
    have h1 := hl j hj
    have h2 : p.getD (at'.getD j 0) 0 ≠ p.getD i 0 := fun e => by have := hp.inj (by omega) hi e; omega
    have h3 : q.getD j 0 ≠ q.getD at'.length 0 := fun e => by have := hq.inj (by omega) hq' e; omega
    omega
  constructor
  · intro h
    refine ⟨fun j hj k hk => ?_, fun j hj => ?_⟩
    · have := h j (by omega) k hk
      rwa [app_old hj, app_old (by omega)] at this
    · have := h at'.length (by omega) j hj
      rw [app_new, app_old hj] at this
      exact (flip j hj).1 this
  · rintro ⟨h1, h2⟩ j hj k hk
    by_cases e : j = at'.length
    · subst e
      rw [app_new, app_old hk]
      exact (flip k hk).2 (h2 k hk)
    · rw [app_old (by omega), app_old (by omega)]
      exact h1 j (by omega) k hk

set_option maxRecDepth 100000 in
set_option maxHeartbeats 2000000 in
theorem alike_any (b off n cap : Nat) (A : Option Addr) (m c : Nat) (B : Option Addr) (c' : Nat) (p at' r : List Nat) (w : World) (hS : Sl .i64 w (some ⟨b, off, none⟩) n p) (hA : Sl .i64 w A m at') (hR : Sl .i64 w B m r)
    (hat : ∀ i, i < m → at'.getD i 0 < n) (hn : n ≤ 60) (hm : m ≤ 60) :
    Calls Try.prog 105 #[.slice (some ⟨b, off, none⟩) n cap, .slice A m c, .slice B m c'] w fun e w' => e = .returned (.bool (alikeB p r at')) ∧ Drew w w' := by
  have hml := hA.len
  have Hml := Lib.hid hml
  clear hml
  have Hat := Lib.hid hat
  clear hat
  go_enter Try.func105, Try.ntmps105
  go_wp2_with fail
  go_loopw [7] (fun iv wr => ∃ I : Nat, I ≤ m ∧ iv = .int .i64 I ∧ Drew w wr ∧ ∀ i, i < I → ∀ k, k < i → (p.getD (at'.getD i 0) 0 < p.getD (at'.getD k 0) 0 ↔ r.getD i 0 < r.getD k 0)) (fun iv _ => m - (intOf iv).toNat)
  case atStart => exact ⟨0, Nat.zero_le _, rfl, Drew.refl w, fun i hi => absurd hi (by omega)⟩
  case round =>
    obtain ⟨I, hI, rfl, hd, hall⟩ := hrel
    have Hall := Lib.hid hall
    clear hall
    by_cases hlt : I < m
    · go_wp2_with fail
      go_loopw [8] (fun kv wr => ∃ K : Nat, K ≤ I ∧ kv = .int .i64 K ∧ Drew w wr ∧ ∀ k, k < K → (p.getD (at'.getD I 0) 0 < p.getD (at'.getD k 0) 0 ↔ r.getD I 0 < r.getD k 0)) (fun kv _ => I - (intOf kv).toNat)
      case atStart => exact ⟨0, Nat.zero_le _, rfl, hd, fun k hk => absurd hk (by omega)⟩
      case round =>
        rename_i hrel
        obtain ⟨K, hK, rfl, hd2, hall2⟩ := hrel
        have Hall2 := Lib.hid hall2
        clear hall2
        by_cases hlt2 : K < I
        · obtain ⟨ba, oa, e1, hs1, ca⟩ := (hA.below (hd2.below (B := w.heap.size))).at (by omega)
          obtain ⟨br, orr, e2, hs2, cr⟩ := (hR.below (hd2.below (B := w.heap.size))).at (by omega)
          obtain ⟨bp, op, e3, hs3, cp⟩ := (hS.below (hd2.below (B := w.heap.size))).at (by have := Hat.out I hlt; omega)
          injection e3 with e3
          injection e3 with e31 e32
          subst e1 e2 e31 e32
          have a1 := ca I hlt
          have a2 := ca K (by omega)
          have r1 := cr I hlt
          have r2 := cr K (by omega)
          have h1 := Hat.out I hlt
          have h2 := Hat.out K (by omega)
          have p1 := cp _ h1
          have p2 := cp _ h2
          have Hyes := Lib.hid (fun (hh : p.getD (at'.getD I 0) 0 < p.getD (at'.getD K 0) 0 ↔ r.getD I 0 < r.getD K 0) => (fun k hk => by
            by_cases e : k = K
            · rw [e]; exact hh
            · exact Hall2.out k (by omega) : ∀ k, k < K + 1 → (p.getD (at'.getD I 0) 0 < p.getD (at'.getD k 0) 0 ↔ r.getD I 0 < r.getD k 0)))
          have Hno := Lib.hid (fun (hh : ¬ (p.getD (at'.getD I 0) 0 < p.getD (at'.getD K 0) 0 ↔ r.getD I 0 < r.getD K 0)) => (by
            cases hb : alikeB p r at' with
            | false => rfl
            | true => exact absurd (alikeB_iff.1 hb I (by rw [Hml.out]; exact hlt) K hlt2) hh : alikeB p r at' = false))
          clear ca cr cp
          generalize at'.getD I 0 = x1 at *
          generalize at'.getD K 0 = x2 at *
          generalize p.getD x1 0 = y1 at *
          generalize p.getD x2 0 = y2 at *
          generalize r.getD I 0 = z1 at *
          generalize r.getD K 0 = z2 at *
          by_cases c1 : y1 < y2 <;> by_cases c2 : z1 < z2
          all_goals
            go_wp2
            go_quiet (fail)
            go_wp2
          · go_roundw
            case rel => exact ⟨K + 1, by omega, by go_num, hd2.drewN _, Hyes.out ⟨fun _ => c2, fun _ => c1⟩⟩
            case measure => simp [intOf]; omega
          · go_ret
            exact ⟨ret_bool (Hno.out fun h => c2 (h.1 c1)).symm, hd2.drewN _⟩
          · go_ret
            exact ⟨ret_bool (Hno.out fun h => c1 (h.2 c2)).symm, hd2.drewN _⟩
          · go_roundw
            case rel => exact ⟨K + 1, by omega, by go_num, hd2.drewN _, Hyes.out ⟨fun h => absurd h c1, fun h => absurd h c2⟩⟩
            case measure => simp [intOf]; omega
        · obtain rfl : K = I := by omega
          go_wp2_with fail
          go_roundw
          case rel => exact ⟨K + 1, by omega, by go_num, hd2, fun i hi k hk => by
            by_cases e : i = K
            · subst e; exact Hall2.out k hk
            · exact Hall.out i (by omega) k hk⟩
          case measure => simp [intOf]; omega
    · obtain rfl : I = m := by omega
      have hb : alikeB p r at' = true := alikeB_iff.2 (by rw [Hml.out]; exact Hall.out)
      go_wp2_with fail
      go_ret
      exact ⟨ret_bool hb.symm, hd⟩


/-- A row of positions in its own new memory, or none. -/
def RetFind2 (o : Option (List Nat)) (w : World) (e : Ending) (w' : World) : Prop :=
  ∃ A m c, e = .returned (.tuple #[.slice A m c, .bool o.isSome]) ∧ Sl .i64 w' A m (o.getD []) ∧ Below w.heap.size w w'

theorem append_clone (A : Option Addr) (m c : Nat) (l : List Nat) (W : World) (hA : Sl .i64 W A m l) (hA0 : m = 0 → A = none ∧ c = 0) (hm : m ≤ 60) :
    ∃ v W1, (Builtin.append_ #[22, 22] 22 #[.slice none 0 0, .slice A m c]).run Try.prog W = .ok v W1 ∧ W1.ownsRow W.heap.size 3 1 v m (nums .i64 l) ∧ Below W.heap.size W W1 := by
  obtain ⟨i0, hi, hz0, hz1, hz2⟩ := info_parts info_int'
  rcases Nat.eq_zero_or_pos m with h0 | h0
  · subst h0
    obtain ⟨rfl, rfl⟩ := hA0 rfl
    have hl := hA.len
    obtain rfl := List.eq_nil_of_length_eq_zero hl
    exact ⟨_, W, run_append_none (P := Try.prog) (t := 22) (ty := 22) (e := 3) i0 (.int .i64 0) Try.underlying22 hi hz0 none 0 W, World.ownsRow_nil _ _ _ _, Below.refl _ _⟩
  · obtain ⟨b, o, rfl, hs, hc⟩ := hA.at h0
    have hl := hA.len
    obtain ⟨v, W1, h1, h2, h3, -⟩ := run_append_own (P := Try.prog) W W.heap.size 22 22 3 i0 (.int .i64 0) 1 8 Try.underlying22 hi hz0 hz1 hz2 rfl (by decide) (.slice none 0 0) 0 [] (World.ownsRow_nil _ _ _ _) ⟨b, o, none⟩ m c (nums .i64 l) (by rw [nums_length]; omega) hA.cellsAt (one_of_cells _ _) (by unfold maxLen; omega) (by omega) (Nat.le_refl _)
    rw [Nat.zero_add, List.nil_append] at h2
    exact ⟨v, W1, h1, h2, (Below.refl _ _).grown h3 (Nat.le_refl _) (fun k e => by cases e)⟩

set_option maxRecDepth 100000 in
set_option maxHeartbeats 4000000 in
theorem rfind_any (b off n cap b' off' n' cap' : Nat) (p q : List Nat) (hp : IsPerm p) (hq : IsPerm q) (hn : n ≤ 60) (h0 : 0 < n) (hn' : n' ≤ 6) (hcq : n' ≤ cap') : ∀ (f : Nat) (A : Option Addr) (m c : Nat) (at' : List Nat) (s : Nat) (w : World), Sl .i64 w (some ⟨b, off, none⟩) n p → Sl .i64 w (some ⟨b', off', none⟩) n' q →
    Sl .i64 w A m at' → (m = 0 → A = none ∧ c = 0) → m + f = n' → (∀ k, k < m → at'.getD k 0 < s) → s ≤ n → s = (if m = 0 then 0 else at'.getD (m - 1) 0 + 1) →
    Calls Try.prog 83 #[.slice (some ⟨b, off, none⟩) n cap, .slice (some ⟨b', off', none⟩) n' cap', .slice A m c] w (RetFind2 (if alikeB p q at' then ext p q (f + 1) at' s else none) w) := by
  intro f
  induction f with
  | zero =>
    intro A m c at' s w hS hT hA hA0 hmf hlt hsn hs
    have hpl := hS.len
    have hql := hT.len
    have hml := hA.len
    obtain rfl : m = n' := by omega
    have Hal := Lib.hid (alike_any b off n cap A m c (some ⟨b', off', none⟩) cap' p at' q w hS hA hT (fun i hi => by have := hlt i hi; omega) hn (by omega))
    rw [show ext p q (0 + 1) at' s = some at' from ext_full (by omega)]
    have HA := Lib.hid hA
    clear hS hA hT hA0 hlt hs hmf hpl hql hml
    cases hok : alikeB p q at' with
    | false =>
      rw [hok] at Hal
      clear hok
      go_enter Try.func83, Try.ntmps83
      go_wp2_with (go_at_call 105; refine Hal.out.mono ?_; rintro e w1 ⟨rfl, hd⟩)
      go_ret2
      exact ⟨none, 0, 0, rfl, Sl.nil, hd.below⟩
    | true =>
      rw [hok] at Hal
      clear hok
      go_enter Try.func83, Try.ntmps83
      go_wp2_with (go_at_call 105; refine Hal.out.mono ?_; rintro e w1 ⟨rfl, hd⟩)
      go_ret2
      exact ⟨A, m, c, rfl, HA.out.below hd.below, hd.below⟩
  | succ f ih =>
    intro A m c at' s w hS hT hA hA0 hmf hlt hsn hs
    have hpl := hS.len
    have hql := hT.len
    have hml := hA.len
    have Hal := Lib.hid (alike_any b off n cap A m c (some ⟨b', off', none⟩) cap' p at' (q.take m) w hS hA (hT.take (by omega)) (fun i hi => by have := hlt i hi; omega) hn (by omega))
    have htk : alikeB p (q.take m) at' = alikeB p q at' := by
      rw [Bool.eq_iff_iff, alikeB_iff, alikeB_iff]
      have ht : ∀ i, i < m → (q.take m).getD i 0 = q.getD i 0 := fun i hi => by simp [List.getD_eq_getElem?_getD, List.getElem?_take_of_lt hi]
      constructor <;> intro h i hi k hk <;> have := h i hi k hk
      · rwa [ht i (by omega), ht k (by omega)] at this
      · rwa [ht i (by omega), ht k (by omega)]
    rw [htk] at Hal
    have hd : ((m : Int) == (n' : Int)) = false := by rw [beq_eq_false_iff_ne]; omega
    have hmn : m ≤ n' := by omega
    have HA := Lib.hid hA
    have HS := Lib.hid hS
    have HT := Lib.hid hT
    have HA0 := Lib.hid hA0
    have Hih := Lib.hid ih
    have Hlt := Lib.hid hlt
    have Hsz := Lib.hid (show p.length = n ∧ q.length = n' ∧ at'.length = m from ⟨hpl, hql, hml⟩)
    cases hok : alikeB p q at' with
    | false =>
      rw [hok] at Hal
      clear hok hA hS hT ih hlt hpl hql hml hs
      go_enter Try.func83, Try.ntmps83
      go_wp2_with (go_at_call 105; refine Hal.out.mono ?_; rintro e w1 ⟨rfl, hd⟩)
      go_ret2
      exact ⟨none, 0, 0, rfl, Sl.nil, hd.below⟩
    | true =>
      rw [hok] at Hal
      have Hok := Lib.hid hok
      have hfrom : (m = 0 ∧ s = 0) ∨ (0 < m ∧ s = at'.getD (m - 1) 0 + 1) := by
        by_cases e : m = 0
        · rw [if_pos e] at hs; exact .inl ⟨e, hs⟩
        · rw [if_neg e] at hs; exact .inr ⟨by omega, hs⟩
      obtain ⟨o, ho⟩ : ∃ o, o = ext p q (f + 1 + 1) at' s := ⟨_, rfl⟩
      rw [← ho]
      have Ho := Lib.hid ho
      clear hok hS hT ih hlt hpl hql hml hs ho htk hA0
      go_enter Try.func83, Try.ntmps83
      go_upto_region 6 with (go_at_call 105; refine Hal.out.mono ?_; rintro e w1 ⟨rfl, hdr⟩)
      go_cut [29] (fun tv wx => tv = .bool (decide (0 < m)) ∧ wx = w1)
      case first =>
        go_wp2_with fail
        go_meet
        exact ⟨rfl, rfl⟩
      case rest =>
        obtain ⟨rfl, rfl⟩ := hcut
        obtain ⟨q29, hq29⟩ : ∃ q29, decide (0 < m) = q29 := ⟨_, rfl⟩
        rw [hq29]
        have Hq29 := Lib.hid hq29
        clear hq29
        go_upto_if 29 with fail
        go_cut [8] (fun sv wx => sv = .int .i64 s ∧ Drew w wx)
        case first =>
          rcases hfrom with ⟨rfl, rfl⟩ | ⟨hm0, hs⟩
          · obtain rfl : q29 = false := by rw [← Hq29.out]; rfl
            go_wp2_with fail
            go_meet
            exact ⟨by go_num, hdr⟩
          · obtain ⟨b1, o1, rfl, hs1, hc1⟩ := (HA.out.below (hdr.below (B := w.heap.size))).at hm0
            have hcl := hc1 (m - 1) (by omega)
            obtain rfl : q29 = true := by rw [← Hq29.out]; exact decide_eq_true hm0
            clear hc1
            generalize at'.getD (m - 1) 0 = lv at *
            have hlv : lv ≤ 1000 := by omega
            subst hs
            go_wp2_with fail
            go_meet
            exact ⟨by go_num, hdr⟩
        case rest =>
          obtain ⟨rfl, hdr'⟩ := hcut
          clear hfrom Hq29 hdr
          go_wp2_with fail
          go_loopw [9] (fun iv wr => ∃ k : Nat, s + k ≤ n ∧ iv = .int .i64 ((s : Int) + k) ∧ Nope p q (f + 1) at' s k ∧ Below w.heap.size w wr) (fun iv _ => n - (intOf iv).toNat)
          case atStart => exact ⟨0, by omega, by go_num, Nope.zero _ _ _ _ _, hdr'.below⟩
          case round =>
            obtain ⟨k, hk, rfl, hno, hbel⟩ := hrel
            have Hno := Lib.hid hno
            clear hno
            by_cases hlt : s + k < n
            · have hAw := HA.out.below hbel
              obtain ⟨v1, W1, hrun, hown1, hb1⟩ := append_clone A m c at' wr hAw HA0.out (by omega)
              have Hrun := Lib.hid hrun
              have hb1' := hbel.trans (hb1.mono hbel.size)
              have hszr := hbel.size
              clear hrun hAw
              go_wp2_with (first | (at_builtin; refine Hid.out ?_))
              refine Lib.hid ?_
              refine wpList_append_run rfl rfl rfl rfl Hrun.out ?_
              clear Hrun
              obtain ⟨A1, c1, rfl⟩ := own_slice' hown1
              obtain ⟨i0, hi, hz0, hz1, hz2⟩ := info_parts info_int'
              go_wp2_with (first | (at_builtin; refine Hid.out ?_))
              refine Lib.hid ?_
              refine wpList_append_own _ rfl _ _ 22 rfl wr.heap.size 3 i0 (.int .i64 0) 1 8 Try.underlying22 hi hz0 hz1 hz2 rfl (by decide) (.slice A1 m c1) m (nums .i64 at') rfl (hown1.alloc _) ⟨W1.heap.size, 0, none⟩ 1 1 [.int .i64 ((s : Int) + k)] rfl rfl (cell_one_new _ _ _) (one_cell _ rfl) (by unfold maxLen; omega) (by omega) (alloc_size_le _ _ hb1.size) ?_
              intro v2 w2 hown2 hgrow2 _
              have hz : ((s : Int) + (k : Int)) = ((s + k : Nat) : Int) := by omega
              rw [hz, nums_snoc] at hown2
              have hb2 := own_below hown1 hb1.size hgrow2
              have hb2' := hb1'.trans (hb2.mono hszr)
              obtain ⟨g2, c2, rfl⟩ := own_pos hown2 (by omega)
              have hlen := Hsz.out
              have hcall := Hih.out (some ⟨g2, 0, none⟩) (m + 1) c2 (at' ++ [s + k]) (s + k + 1) w2 (HS.out.below hb2') (HT.out.below hb2') (own_sl hown2 (by omega)) (by omega) (by omega) (fun j hj => by
                by_cases e : j = at'.length
                · rw [e, app_new]; omega
                · rw [app_old (by omega)]; have := Hlt.out j (by omega); omega) (by omega) (by
                rw [if_neg (by omega), Nat.add_sub_cancel, show m = at'.length by omega, app_new])
              have htr : (if alikeB p q (at' ++ [s + k]) then ext p q (f + 1) (at' ++ [s + k]) (s + k + 1) else none) = tryAt p q (f + 1) at' (s + k) := by
                rw [alikeB_snoc hp hq (by omega) (fun j hj => by have := Hlt.out j (by omega); omega) (by omega), Hok.out, Bool.true_and]
                rfl
              rw [htr] at hcall
              have Hcall := Lib.hid hcall
              clear hcall htr hown2 hgrow2 hown1 hb1 hb2 hz
              obtain ⟨t, ht⟩ : ∃ t, tryAt p q (f + 1) at' (s + k) = t := ⟨_, rfl⟩
              have Ht := Lib.hid ht
              rw [ht] at Hcall
              clear ht
              have hlen' := hlen
              clear hlen'
              have Hlen := Lib.hid hlen
              clear hlen
              cases t with
              | none =>
                go_wp2_with (go_at_call 83; refine Hcall.out.mono ?_; rintro e w3 ⟨A3, m3, c3, rfl, -, hb3⟩)
                go_roundw
                case rel => exact ⟨k + 1, by omega, by go_num, Hno.out.snoc Ht.out, hb2'.trans (hb3.mono hb2'.size)⟩
                case measure => simp [intOf]; omega
              | some r =>
                go_wp2_with (go_at_call 83; refine Hcall.out.mono ?_; rintro e w3 ⟨A3, m3, c3, rfl, hs3, hb3⟩)
                go_ret2
                have hres : o = some r := by rw [Ho.out]; exact ext_some (k := k) (by have := Hlen.out; omega) (by have := Hlen.out; omega) Hno.out Ht.out
                exact ⟨A3, m3, c3, by rw [hres]; rfl, by rw [hres]; exact hs3, hb2'.trans (hb3.mono hb2'.size)⟩
            · have hres : o = none := by
                rw [Ho.out]
                refine ext_none (by have := Hsz.out; omega) ?_
                have e : p.length - s = k := by have := Hsz.out; omega
                rw [e]
                exact Hno.out
              have Hres := Lib.hid hres
              clear hres
              go_wp2_with fail
              go_ret2
              exact ⟨none, 0, 0, by rw [Hres.out]; rfl, by rw [Hres.out]; exact Sl.nil, hbel⟩

theorem rFind_any (b off n cap b' off' n' cap' : Nat) (p q : List Nat) (w : World) (hS : Sl .i64 w (some ⟨b, off, none⟩) n p) (hT : Sl .i64 w (some ⟨b', off', none⟩) n' q) (hp : IsPerm p) (hq : IsPerm q) (hn : n ≤ 60) (h0 : 0 < n) (hn' : n' ≤ 6) (hcq : n' ≤ cap') :
    Calls Try.prog 49 #[.slice (some ⟨b, off, none⟩) n cap, .slice (some ⟨b', off', none⟩) n' cap'] w (RetFind2 (occ p q) w) := by
  have hc := rfind_any b off n cap b' off' n' cap' p q hp hq hn h0 hn' hcq n' none 0 0 [] 0 w hS hT Sl.nil (fun _ => ⟨rfl, rfl⟩) (by omega) (fun k hk => absurd hk (by omega)) (by omega) rfl
  rw [if_pos (show alikeB p q [] = true from rfl), show ext p q (n' + 1) [] 0 = occ p q by rw [← hT.len]; rfl] at hc
  have Hc := Lib.hid hc
  clear hc
  go_enter Try.func49, Try.ntmps49
  go_wp2_with (go_at_call 83; refine Hc.out.mono ?_; rintro e w3 ⟨A3, m3, c3, rfl, hs3, hb3⟩)
  go_ret2
  exact ⟨A3, m3, c3, rfl, hs3, hb3⟩

end Go.Proofs.Ytcklgdcjedikoaa

namespace Go.Proofs.Ytcklgdcjedikoaa
open Go.RowKit

theorem run_letters (p : List Nat) : ∀ k, ∀ x ∈ (iterS p k).run, x = 105 ∨ x = 111
  | 0, x, h => by simp [iterS] at h
  | k + 1, x, h => by
    have ih := run_letters p k
    have e : iterS p (k + 1) = stepS p (iterS p k) := rfl
    rw [e] at h
    unfold stepS at h
    split at h
    · split at h
      · rcases List.mem_append.1 (show x ∈ (iterS p k).run ++ [105] from h) with h | h
        · exact ih x h
        · exact .inl (List.mem_singleton.1 h)
      · exact ih x h
    · rcases List.mem_append.1 (show x ∈ (iterS p k).run ++ [111] from h) with h | h
      · exact ih x h
      · exact .inr (List.mem_singleton.1 h)

theorem letters_back (l : List Nat) (h : ∀ x ∈ l, x = 105 ∨ x = 111) : lettersOf (strOfNums (l.map fun (x : Nat) => (x : Int))) = l := by
  unfold lettersOf strOfNums
  simp only [List.map_map]
  conv => rhs; rw [← List.map_id l]
  refine List.map_congr_left fun x hx => ?_
  rcases h x hx with rfl | rfl <;> rfl

theorem ints_below {w W : World} {A : Option Addr} {n : Nat} (h : Ints w A n) (hb : Below w.heap.size w W) : Ints W A n := by
  obtain ⟨h1, h2⟩ := h
  refine ⟨h1, fun hn => ?_⟩
  obtain ⟨b, off, e, hs, hc⟩ := h2 hn
  refine ⟨b, off, e, Nat.lt_of_lt_of_le hs hb.size, fun i hi => ?_⟩
  obtain ⟨z, z1, z2, z3⟩ := hc i hi
  exact ⟨z, z1, z2, (hb.cell hs).trans z3⟩

/-- What Sort's string is. -/
theorem sortStr_facts {p : List Nat} (hn : p.length ≤ 60) : (sortStr p).size ≤ 1000 ∧ (sortsB p = true → sortsF p (lettersOf (sortStr p)) = true) ∧ (sortsB p = false → sortStr p = ⟨#[]⟩) := by
  have hr := runTo_own p (2 * p.length)
  have hc := runTo_count _ _ _ _ hr.2
  refine ⟨?_, fun h => ?_, fun h => ?_⟩
  · unfold sortStr
    split
    · have : (strOfNums ((finS p).run.map fun (x : Nat) => (x : Int))).size = (finS p).run.length := by
        show (List.toArray _).size = _
        simp
      rw [this]
      have : (finS p).run.length = (iterS p (2 * p.length)).run.length := rfl
      omega
    · decide
  · unfold sortStr
    rw [if_pos h, show (finS p).run = (iterS p (2 * p.length)).run from rfl, letters_back _ (run_letters p (2 * p.length))]
    exact own_sorts h
  · unfold sortStr
    rw [if_neg (by rw [h]; decide)]

set_option maxRecDepth 100000 in
set_option maxHeartbeats 4000000 in
theorem permFinds_walk (A : Option Addr) (n cap : Nat) (A' : Option Addr) (n' cap' : Nat) (s : ByteArray) (w : World) (h : Ints w A n) (h' : Ints w A' n') :
    Calls Try.prog 6 #[.slice A n cap, .slice A' n' cap', .string s] w fun e w' => e = .returned (.bool true) ∧ Below w.heap.size w w' := by
  have hN1 : 1 ≤ tameLen n 10 := by unfold tameLen; omega
  have hN2 : tameLen n 10 ≤ 10 := by unfold tameLen; omega
  have hM1 : 1 ≤ tameLen n' 6 := by unfold tameLen; omega
  have hM2 : tameLen n' 6 ≤ 6 := by unfold tameLen; omega
  have Htame := Lib.hid (tame_cap A n cap 10 w h (by omega))
  have Htame' := Lib.hid (fun W (hW : Below w.heap.size w W) => tame_cap A' n' cap' 6 W (ints_below h' hW) (by omega))
  generalize tameLen n 10 = N at *
  generalize tameLen n' 6 = M at *
  go_enter Try.func6, Try.ntmps6
  go_wp2_with fail
  refine Htame.out.mono ?_
  rintro e w1 ⟨gp, cp, p, rfl, hS, hp, hgp, hcp, hb1⟩
  have hlen := hS.len
  subst hlen
  clear Htame
  have Hp := Lib.hid hp
  clear hp
  go_wp2_with fail
  refine (Htame'.out w1 hb1).mono ?_
  rintro e w2 ⟨gq, cq, q, rfl, hT, hq, hgq, hcq, hb2⟩
  have hlen := hT.len
  subst hlen
  clear Htame'
  have Hq := Lib.hid hq
  clear hq
  have hS2 := hS.below hb2
  have hb2' := hb1.trans (hb2.mono hb1.size)
  clear hS hb1 hb2
  go_wp2_with fail
  refine (find_uni gp 0 p.length cp gq 0 q.length cq p q w2 hS2 hT Hp.out Hq.out (by omega) hN1 hM2 hM1).mono ?_
  rintro e w3 ⟨A3, m3, c3, rfl, hs3, hb3⟩
  have hS3 := hS2.below hb3
  have hT3 := hT.below hb3
  have hb3' := hb2'.trans (hb3.mono hb2'.size)
  clear hS2 hT hb3 hb2'
  go_wp2_with fail
  refine (rFind_any gp 0 p.length cp gq 0 q.length cq p q w3 hS3 hT3 Hp.out Hq.out (by omega) hN1 hM2 hcq.1).mono ?_
  rintro e w4 ⟨A4, m4, c4, rfl, hs4, hb4⟩
  have hS4 := hS3.below hb4
  have hb4' := hb3'.trans (hb4.mono hb3'.size)
  have Hsame := Lib.hid (same_true A3 A4 m3 m4 _ _ w4 (hs3.below hb4) hs4 rfl c3 c4)
  clear hS3 hT3 hb4 hb3' hs3 hs4
  obtain ⟨ob, hob⟩ : ∃ ob, (occ p q).isSome = ob := ⟨_, rfl⟩
  rw [hob]
  have hdob : (ob != ob) = false := by simp
  clear hob
  go_wp2_with (go_at_call 33; refine Hsame.out.mono ?_; rintro e w5 ⟨rfl, q5, rfl⟩)
  have hS5 := hS4.drewN q5
  have hb5' := below_drewN hb4' q5
  generalize w4.drewN q5 = w5 at *
  clear hS4 hb4' Hsame hdob
  refine (sort_any gp 0 p.length cp p w5 hS5 Hp.out (by omega) hN1 hcp.1 hcp.2).mono ?_
  rintro e w6 ⟨rfl, hb6⟩
  have hS6 := hS5.below hb6
  have hb6' := hb5'.trans (hb6.mono hb5'.size)
  clear hS5 hb5' hb6
  have hso := sorts_iff Hp.out (mem_perm Hp.out hN1)
  rw [← occ_120 (perm_nodup Hp.out)] at hso
  have hfacts := sortStr_facts (p := p) (by omega)
  generalize sortStr p = sstr at *
  go_wp2_with fail
  have hq0 := below_new' w6 (.cells #[.int .i64 1, .int .i64 2, .int .i64 0] 3)
  refine (rFind_any gp 0 p.length cp w6.heap.size 0 3 3 p [1, 2, 0] _ (hS6.below hq0) (lit_at w6 [1, 2, 0] (by decide) _ rfl) Hp.out perm120 (by omega) hN1 (by omega) (by omega)).mono ?_
  rintro e w7 ⟨A7, m7, c7, rfl, -, hb7⟩
  have hb7 := hq0.trans (hb7.mono hq0.size)
  have hS7 := hS6.below hb7
  have hb7' := hb6'.trans (hb7.mono hb6'.size)
  clear hS6 hb7 hb6' hq0
  obtain ⟨so, hso'⟩ : ∃ so, sortsB p = so := ⟨_, rfl⟩
  have hoa : (occ p [1, 2, 0]).isSome = !so := by
    rw [← hso']
    cases h1 : (occ p [1, 2, 0]).isSome <;> cases h2 : sortsB p <;> rw [h1, h2] at hso <;> simp at hso ⊢
  rw [hoa, hso']
  rw [hso'] at hfacts
  have Hfacts := Lib.hid hfacts
  clear hfacts hso hoa hso'
  have HR := Lib.hid (fun (S : ByteArray) (hsz : S.size ≤ 100000) W (hW : Below w7.heap.size w7 W) => rsorts_any gp 0 p.length cp p S W (hS7.below hW) Hp.out (by omega) hN1 hsz)
  have HP := Lib.hid (fun (S : ByteArray) (hsz : S.size ≤ 100000) W (hW : Below w7.heap.size w7 W) => sorts_any gp 0 p.length cp p S W (hS7.below hW) Hp.out (by omega) hN1 hcp.1 hcp.2 hsz)
  clear hS7 hgp hgq hcp hcq
  have Hb7 := Lib.hid hb7'
  clear hb7'
  go_upto_region 8 with fail
  go_cut [92] (fun tv wx => tv = .bool false ∧ Below w7.heap.size w7 wx)
  case first =>
    cases so with
    | true =>
      have hsz := Hfacts.out.1
      have hr := HR.out sstr (by omega) w7 (Below.refl _ _)
      have hp := fun W hW => HP.out sstr (by omega) W hW
      rw [Hfacts.out.2.1 rfl] at hr
      rw [Hfacts.out.2.1 rfl] at hp
      have Hr := Lib.hid hr
      have Hp2 := Lib.hid hp
      clear hr hp hsz
      go_wp2_with (first
        | (go_at_call 50; refine Hr.out.mono ?_; rintro e w8 ⟨rfl, hb8⟩)
        | (go_at_call 31; refine (Hp2.out w8 hb8).mono ?_; rintro e w9 ⟨rfl, hb9⟩))
      go_meet
      exact ⟨by go_num, hb8.trans (hb9.mono hb8.size)⟩
    | false =>
      have hz := Hfacts.out.2.2 rfl
      subst hz
      clear Hfacts
      go_wp2_with fail
      go_meet
      exact ⟨by go_num, Below.refl _ _⟩
  case rest =>
    obtain ⟨rfl, hbc⟩ := hcut
    clear Hfacts
    have HR' := Lib.hid (fun (S : ByteArray) (hsz : S.size ≤ 100000) W (hW : Below wc.heap.size wc W) => HR.out S hsz W (hbc.trans (hW.mono hbc.size)))
    have HP' := Lib.hid (fun (S : ByteArray) (hsz : S.size ≤ 100000) W (hW : Below wc.heap.size wc W) => HP.out S hsz W (hbc.trans (hW.mono hbc.size)))
    have Hbc := Lib.hid (Hb7.out.trans (hbc.mono Hb7.out.size))
    clear HR HP Hb7 hbc
    go_upto_region 10 with fail
    go_cut [2] (fun sv wx => ∃ s2 : ByteArray, sv = .string s2 ∧ s2.size ≤ 40 ∧ wx = wc)
    case first =>
      obtain ⟨mm, hmm⟩ : ∃ mm, mm = min s.size 40 := ⟨_, rfl⟩
      have hmin : min (s.size : Int) 40 = (mm : Int) := by omega
      have hm0 : (0 : Int) ≤ (mm : Int) := by omega
      have hm1 : (mm : Int) ≤ (s.size : Int) := by omega
      have Hm40 := Lib.hid (show mm ≤ 40 by omega)
      clear hmm
      go_wp2_with fail
      all_goals
        go_meet
        refine ⟨_, rfl, ?_, rfl⟩
        rw [ByteArray.size_extract]
        have := Hm40.out
        omega
    case rest =>
      obtain ⟨s2, rfl, hs40, rfl⟩ := hcut
      have hp1 := fun W hW => HP'.out s2 (by omega) W hW
      have hr1 := fun W hW => HR'.out s2 (by omega) W hW
      have Hidx := Lib.hid (string_at s2)
      generalize sortsF p (lettersOf s2) = r at hp1 hr1
      have Hp1 := Lib.hid hp1
      have Hr1 := Lib.hid hr1
      have hrr : (r != r) = false := by simp
      clear hp1 hr1
      go_wp2_with (first
        | (go_at_call 31; refine (Hp1.out _ (Below.refl _ _)).mono ?_; rintro e w8 ⟨rfl, hb8⟩)
        | (go_at_call 50; refine (Hr1.out w8 hb8).mono ?_; rintro e w9 ⟨rfl, hb9⟩))
      have hb9' := hb8.trans (hb9.mono hb8.size)
      clear hb8 hb9
      go_loopw [19, 20] (fun tv iv wr => ∃ (k : Nat) (s3 : ByteArray), k ≤ 2 * p.length ∧ tv = .string s3 ∧ s3.size = k ∧ iv = .int .i64 k ∧ wr = w9) (fun _ iv _ => 2 * p.length - (intOf iv).toNat)
      case atStart => exact ⟨0, ⟨#[]⟩, Nat.zero_le _, rfl, rfl, rfl, rfl⟩
      case round =>
        obtain ⟨k, s3, hk, rfl, hs3, rfl, rfl⟩ := hrel
        have hw : IntKind.i64.wrap (2 * (p.length : Int)) = 2 * (p.length : Int) := IntWalk.i64_in _ (by omega)
        have Hs3 := Lib.hid hs3
        have hs3' : s3.size ≤ 20 := by omega
        clear hs3
        by_cases hlt : k < 2 * p.length
        · by_cases hin : k < s2.size
          · have hx := fun W => Hidx.out k hin W
            have hlt' := lettersOf_lt s2 k
            generalize (lettersOf s2).getD k 0 = y at *
            go_wp2_with fail
            all_goals
              go_roundw
              case rel => exact ⟨k + 1, _, by omega, rfl, by rw [ByteArray.size_append, Hs3.out]; rfl, by go_num, trivial⟩
              case measure => simp [intOf]; omega
          · go_wp2_with fail
            go_roundw
            case rel => exact ⟨k + 1, _, by omega, rfl, by rw [ByteArray.size_append, Hs3.out]; rfl, by go_num, trivial⟩
            case measure => simp [intOf]; omega
        · have hp2 := fun W hW => HP'.out s3 (by omega) W hW
          have hr2 := fun W hW => HR'.out s3 (by omega) W hW
          generalize sortsF p (lettersOf s3) = r2 at hp2 hr2
          have Hp2 := Lib.hid hp2
          have Hr2 := Lib.hid hr2
          have hrr2 : (r2 == r2) = true := by simp
          clear hp2 hr2
          go_wp2_with (first
            | (go_at_call 31; refine (Hp2.out _ hb9').mono ?_; rintro e w10 ⟨rfl, hb10⟩; have hb10' := hb9'.trans (hb10.mono hb9'.size))
            | (go_at_call 50; refine (Hr2.out w10 hb10').mono ?_; rintro e w11 ⟨rfl, hb11⟩)
            | (go_at_call 23; refine (awake_any _).mono ?_; rintro e w12 ⟨rfl, hb12⟩))
          go_ret
          have q1 := hb10'.trans (hb11.mono hb10'.size)
          have q2 := Hbc.out.trans (q1.mono Hbc.out.size)
          exact ⟨rfl, q2.trans (hb12.mono q2.size)⟩

end Go.Proofs.Ytcklgdcjedikoaa
