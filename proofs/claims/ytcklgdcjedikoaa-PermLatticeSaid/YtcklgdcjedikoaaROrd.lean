/-
  The reference's tables of pairs.
  The reference's closed and Weak.
  The reference's ordered.
  The reference's Join and Meet.
-/
import Derived.Test.YtcklgdcjedikoaaOrders
import Derived.Test.YtcklgdcjedikoaaPairs
import Derived.Laws.MakeOwn
import Derived.Test.YtcklgdcjedikoaaRFrom
namespace Go.Proofs.Ytcklgdcjedikoaa
open Go.RowKit

/-- A row of flags as cells. -/
def boolR (n : Nat) (f : Nat → Bool) : Array Value := ((List.range n).map fun i => Value.bool (f i)).toArray
theorem boolR_at (n : Nat) (f : Nat → Bool) (i : Nat) (h : i < n) : (boolR n f)[i]? = some (.bool (f i)) := by simp [boolR, h]
theorem boolR_set (n : Nat) (f : Nat → Bool) (i : Nat) (b : Bool) : (boolR n f).setIfInBounds i (.bool b) = boolR n fun k => if k = i then b else f k := by
  apply Array.ext
  · simp [boolR]
  · intro j h1 h2
    simp only [boolR, List.setIfInBounds_toArray, List.getElem_toArray, List.getElem_set, List.getElem_map, List.getElem_range]
    by_cases e : i = j
    · subst e; simp
    · simp [e]; intro h; exact absurd h.symm e
theorem boolR_made (n : Nat) : madeCells (Value.bool false).cells n = boolR n fun _ => false := by
  unfold madeCells boolR Value.cells
  apply Array.ext
  · simp
  · intro i h1 h2
    simp [Nat.mod_one]
theorem info_boolR : (Try.prog.info? 4).map (fun i => (i.zero, i.size, i.bytes)) = some (some (.bool false), 1, 1) := by kernel_rfl
theorem run_makeBoolR (n : Nat) (hn : n ≤ 60) (w : World) :
    (Instr.makeSlice 80 (.int .i64 (n : Int)) (.int .i64 (n : Int))).run Try.prog w = .ok (.slice (some ⟨w.heap.size, 0, none⟩) n n) (w.alloc (.cells (boolR n fun _ => false) 4)) := by
  obtain ⟨i0, h0, hz, hs, hb⟩ := info_parts info_boolR
  have hr := run_make (P := Try.prog) w 80 4 i0 _ Try.underlying80 h0 hz .i64 .i64 n n (by omega) (by omega) (by rw [hb]; omega) (by omega)
  rw [hs, Nat.mul_one, Int.toNat_natCast, boolR_made] at hr
  exact hr

/-- The first k of n rows, one block behind the other from block g + 1 on. -/
def rowsR (n g k : Nat) : Array Value := ((List.range n).map fun i => if i < k then Value.slice (some ⟨g + 1 + i, 0, none⟩) n n else .slice none 0 0).toArray
theorem rowsR_at (n g k i : Nat) (h : i < n) (hk : i < k) : (rowsR n g k)[i]? = some (.slice (some ⟨g + 1 + i, 0, none⟩) n n) := by simp [rowsR, h, hk]
theorem rowsR_no (n g k : Nat) (h : k < n) : (rowsR n g k)[k]? = some (.slice none 0 0) := by simp [rowsR, h]
theorem rowsR_set (n g k : Nat) : (rowsR n g k).setIfInBounds k (.slice (some ⟨g + 1 + k, 0, none⟩) n n) = rowsR n g (k + 1) := by
  apply Array.ext
  · simp [rowsR]
  · intro j h1 h2
    simp only [rowsR, List.setIfInBounds_toArray, List.getElem_toArray, List.getElem_set, List.getElem_map, List.getElem_range]
    by_cases e : k = j
    · subst e; simp
    · rw [if_neg e]
      by_cases h : j < k
      · rw [if_pos h, if_pos (by omega)]
      · rw [if_neg h, if_neg (by omega)]
theorem rowsR_made (n g : Nat) : madeCells (Value.slice none 0 0).cells n = rowsR n g 0 := by
  unfold madeCells rowsR Value.cells
  apply Array.ext
  · simp
  · intro i h1 h2
    simp [Nat.mod_one]
theorem info_rowR : (Try.prog.info? 80).map (fun i => (i.zero, i.size, i.bytes)) = some (some (.slice none 0 0), 1, 24) := by kernel_rfl
theorem run_makeRowR (n : Nat) (hn : n ≤ 60) (w : World) :
    (Instr.makeSlice 99 (.int .i64 (n : Int)) (.int .i64 (n : Int))).run Try.prog w = .ok (.slice (some ⟨w.heap.size, 0, none⟩) n n) (w.alloc (.cells (rowsR n w.heap.size 0) 80)) := by
  obtain ⟨i0, h0, hz, hs, hb⟩ := info_parts info_rowR
  have hr := run_make (P := Try.prog) w 99 80 i0 _ Try.underlying99 h0 hz .i64 .i64 n n (by omega) (by omega) (by rw [hb]; omega) (by omega)
  rw [hs, Nat.mul_one, Int.toNat_natCast, rowsR_made n w.heap.size] at hr
  exact hr

/-- A table lies in block g and the n blocks behind it. -/
structure Tb (w : World) (g n : Nat) (M : Nat → Nat → Bool) : Prop where
  head : Blk w g 80 (rowsR n g n)
  row : ∀ i, i < n → Blk w (g + 1 + i) 4 (boolR n (M i))

theorem Tb.cell {w : World} {g n : Nat} {M : Nat → Nat → Bool} (h : Tb w g n M) (v x : Nat) (hv : v < n) (hx : x < n) : w.cell? ⟨g + 1 + v, x, none⟩ = some (.bool (M v x)) := ((h.row v hv).cell x).trans (boolR_at _ _ _ hx)
theorem Tb.at' {w : World} {g n : Nat} {M : Nat → Nat → Bool} (h : Tb w g n M) (v : Nat) (hv : v < n) : w.cell? ⟨g, v, none⟩ = some (.slice (some ⟨g + 1 + v, 0, none⟩) n n) := (h.head.cell v).trans (rowsR_at _ _ _ _ hv hv)
theorem Tb.free {w : World} {g n : Nat} {M : Nat → Nat → Bool} (h : Tb w g n M) (v x : Nat) (hv : v < n) : w.frozen? ⟨g + 1 + v, x, none⟩ = false := (h.row v hv).free x
theorem Tb.drewN {w : World} {g n : Nat} {M : Nat → Nat → Bool} (h : Tb w g n M) (q : Nat) : Tb (w.drewN q) g n M := ⟨h.head, fun i hi => h.row i hi⟩
theorem Tb.size {w : World} {g n : Nat} {M : Nat → Nat → Bool} (h : Tb w g n M) (h0 : 0 < n) : g + n < w.heap.size := by
  have := (h.row (n - 1) (by omega)).lt
  omega
theorem Tb.put {w : World} {g n : Nat} {M : Nat → Nat → Bool} (h : Tb w g n M) (v x : Nat) (b : Bool) (hv : v < n) : Tb (w.setCell ⟨g + 1 + v, x, none⟩ (.bool b)) g n (upd M v x b) := by
  have ho : Only (g + 1 + v) w (w.setCell ⟨g + 1 + v, x, none⟩ (.bool b)) := (Only.refl _ _).setCell _ _
  refine ⟨ho.blk (by omega) h.head, fun i hi => ?_⟩
  by_cases e : i = v
  · subst e
    have := (h.row i hi).store x (.bool b)
    rw [boolR_set] at this
    have e2 : upd M i x b i = fun k => if k = x then b else M i k := by
      funext k
      unfold upd
      by_cases e : k = x
      · rw [if_pos ⟨rfl, e⟩, if_pos e]
      · rw [if_neg (fun h => e h.2), if_neg e]
    rw [e2]
    exact this
  · have e2 : upd M v x b i = M i := by
      funext k
      unfold upd
      rw [if_neg (fun h => e h.1)]
    rw [e2]
    exact ho.blk (by omega) (h.row i hi)
theorem Tb.below {w w' : World} {g n : Nat} {M : Nat → Nat → Bool} (h : Tb w g n M) (hb : Below w.heap.size w w') : Tb w' g n M :=
  ⟨(hb.block g h.head.lt).trans h.head, fun i hi => (hb.block _ (h.row i hi).lt).trans (h.row i hi)⟩

/-- A table in new memory. -/
def RetTb (n : Nat) (M : Nat → Nat → Bool) (w : World) (e : Ending) (w' : World) : Prop :=
  ∃ g, e = .returned (.slice (some ⟨g, 0, none⟩) n n) ∧ w.heap.size ≤ g ∧ Tb w' g n M ∧ Below w.heap.size w w'

set_option maxRecDepth 100000 in
set_option maxHeartbeats 2000000 in
theorem rtable_any (b off n cap : Nat) (p : List Nat) (w : World) (hS : Sl .i64 w (some ⟨b, off, none⟩) n p) (hp : IsPerm p) (hn : n ≤ 60) (h0 : 0 < n) :
    Calls Try.prog 79 #[.slice (some ⟨b, off, none⟩) n cap] w (RetTb n (invM p) w) := by
  have hl := hS.len
  subst hl
  obtain ⟨pb, hpb, hrow⟩ := rowAt_of hS h0
  have hlb : b < w.heap.size := (Array.getElem?_eq_some_iff.1 hpb).1
  have Hrow := Lib.hid hrow
  have hmk := run_makeRowR p.length hn w
  have Hmk := Lib.hid (fun W => run_makeBoolR p.length hn W)
  clear hS hrow
  go_enter Try.func79, Try.ntmps79
  go_wp2
  clear hmk
  go_loopw [4] (fun iv wr => ∃ k : Nat, k ≤ p.length ∧ iv = .int .i64 k ∧ Blk wr w.heap.size 80 (rowsR p.length w.heap.size k) ∧ (∀ i, i < k → Blk wr (w.heap.size + 1 + i) 4 (boolR p.length fun _ => false)) ∧ wr.heap.size = w.heap.size + 1 + k ∧ Below w.heap.size w wr) (fun iv _ => p.length - (intOf iv).toNat)
  case atStart => exact ⟨0, Nat.zero_le _, rfl, Blk.new w _ _, fun i hi => absurd hi (Nat.not_lt_zero _), by simp, (Below.refl _ _).alloc (Nat.le_refl _) _⟩
  case round =>
    obtain ⟨k, hk, rfl, hblk, hrows, hsz, hbel⟩ := hrel
    by_cases hlt : k < p.length
    · have hmk := Hmk.out wr
      have hh : _ = some (Value.slice none 0 0) := (hblk.cell k).trans (rowsR_no _ _ _ hlt)
      have hb2 := hblk.more' (.cells (boolR p.length fun _ => false) 4)
      have hh2 : _ = some (Value.slice none 0 0) := (hb2.cell k).trans (rowsR_no _ _ _ hlt)
      have hf2 := hb2.free k
      have Hnew := Lib.hid (Blk.new wr 4 (boolR p.length fun _ => false))
      have Hput := Lib.hid (hb2.store k (.slice (some ⟨w.heap.size + 1 + k, 0, none⟩) p.length p.length))
      rw [rowsR_set] at Hput
      have Hrows := Lib.hid hrows
      clear hblk hb2 hrows
      rw [hsz] at hmk
      go_wp2
      go_roundw
      case rel =>
        have ho : Only w.heap.size (wr.alloc (.cells (boolR p.length fun _ => false) 4)) _ := (Only.refl _ _).setCell k (.slice (some ⟨w.heap.size + 1 + k, 0, none⟩) p.length p.length)
        refine ⟨k + 1, by omega, by go_num, Hput.out, fun i hi => ?_, by rw [ho.size]; simp; omega, (hbel.alloc hbel.size _).trans (ho.below (Nat.le_refl _))⟩
        by_cases e : i = k
        · subst e
          have := Hnew.out
          rw [hsz] at this
          exact ho.blk (by omega) this
        · exact ho.blk (by omega) ((Hrows.out i (by omega)).more' _)
      case measure => simp [intOf]; omega
    · obtain rfl : k = p.length := by omega
      have htb : Tb wr w.heap.size p.length (tabOf p (invTo p 0)) := ⟨hblk, hrows⟩
      clear hblk hrows hsz
      go_wp2
      go_loopw [5] (fun iv wr => ∃ i : Nat, i ≤ p.length ∧ iv = .int .i64 i ∧ Tb wr w.heap.size p.length (tabOf p (invTo p i)) ∧ Below w.heap.size w wr) (fun iv _ => p.length - (intOf iv).toNat)
      case atStart => exact ⟨0, Nat.zero_le _, rfl, htb, hbel⟩
      case round =>
        rename_i hrel
        obtain ⟨i, hi, rfl, htb, hbel⟩ := hrel
        by_cases hlt : i < p.length
        · go_wp2
          go_loopw [6] (fun jv wr => ∃ k : Nat, k ≤ p.length - (i + 1) ∧ jv = .int .i64 (i + 1 + k : Nat) ∧ Tb wr w.heap.size p.length (tabOf p (invTo p i ++ rowOf p i (List.range' (i + 1) k))) ∧ Below w.heap.size w wr) (fun jv _ => p.length - (intOf jv).toNat)
          case atStart => exact ⟨0, Nat.zero_le _, by go_num, by rw [List.range'_zero]; simpa [rowOf] using htb, hbel⟩
          case round =>
            rename_i hrel
            obtain ⟨k, hk, rfl, htb, hbel⟩ := hrel
            by_cases hltk : i + 1 + k < p.length
            · have hpr := (hbel.block b hlb).trans hpb
              have ci := Hrow.out wr hpr i hlt
              have ck := Hrow.out wr hpr (i + 1 + k) hltk
              have hx := hp.lt (i := i) hlt
              have hy := hp.lt (i := i + 1 + k) hltk
              have Hyes := Lib.hid (rowOf_snoc_yes p i (List.range' (i + 1) k) (i + 1 + k))
              have Hno := Lib.hid (rowOf_snoc_no p i (List.range' (i + 1) k) (i + 1 + k))
              have Htab := Lib.hid (tabOf_snoc p (invTo p i ++ rowOf p i (List.range' (i + 1) k)) (i, i + 1 + k))
              have Hrng := Lib.hid (List.range'_1_concat (s := i + 1) (n := k))
              have Htb := Lib.hid htb
              dsimp only at Htab
              generalize p.getD i 0 = x at *
              generalize p.getD (i + 1 + k) 0 = y at *
              by_cases hyx : y < x
              · have kh := htb.at' x hx
                have kc := htb.cell x y hx hy
                have kf := htb.free x y hx
                generalize tabOf p (invTo p i ++ rowOf p i (List.range' (i + 1) k)) x y = z at *
                go_wp2
                go_quiet (fail)
                go_wp2
                have htb2 := Htb.out.drewN nq
                have hbel2 := below_drewN hbel nq
                have ci2 : (wr.drewN nq).cell? _ = _ := ci
                have ck2 : (wr.drewN nq).cell? _ = _ := ck
                have kh2 : (wr.drewN nq).cell? _ = _ := kh
                have kc2 : (wr.drewN nq).cell? _ = _ := kc
                have kf2 : (wr.drewN nq).frozen? _ = _ := kf
                clear ci ck kh kc kf
                have Hput := Lib.hid (htb2.put x y true hx)
                generalize wr.drewN nq = X at *
                have hxp : (x : Int) < p.length := by omega
                go_region
                all_goals
                  go_wp2
                  go_roundw
                  case rel => exact ⟨k + 1, by omega, by go_num, by rw [Hrng.out, Hyes.out hyx, ← List.append_assoc, Htab.out]; exact Hput.out.drewN 1, (hbel2.setCell (show w.heap.size ≤ w.heap.size + 1 + x by omega) _).drew⟩
                  case measure => simp [intOf]; omega
              · go_wp2
                go_quiet (fail)
                go_wp2
                go_roundw
                case rel => exact ⟨k + 1, by omega, by go_num, by rw [Hrng.out, Hno.out hyx]; exact Htb.out.drewN _, below_drewN hbel _⟩
                case measure => simp [intOf]; omega
            · obtain rfl : k = p.length - (i + 1) := by omega
              rw [← invTo_succ] at htb
              go_wp2
              go_roundw
              case rel => exact ⟨i + 1, by omega, by go_num, htb, hbel⟩
              case measure => simp [intOf]; omega
        · obtain rfl : i = p.length := by omega
          go_wp2
          go_ret
          exact ⟨w.heap.size, rfl, Nat.le_refl _, htb, hbel⟩

end Go.Proofs.Ytcklgdcjedikoaa

namespace Go.Proofs.Ytcklgdcjedikoaa
open Go.RowKit

theorem upd_same (M : Nat → Nat → Bool) (v x : Nat) (b : Bool) (h : M v x = b) : upd M v x b = M := by
  funext a c
  unfold upd
  split
  · rename_i e
    rw [e.1, e.2, h]
  · rfl

set_option maxRecDepth 100000 in
set_option maxHeartbeats 2000000 in
theorem rclosed_any (g n : Nat) (M : Nat → Nat → Bool) (w : World) (hT : Tb w g n M) (hn : n ≤ 60) :
    Calls Try.prog 81 #[.slice (some ⟨g, 0, none⟩) n n] w fun e w' => e = .returned (.slice (some ⟨g, 0, none⟩) n n) ∧ Tb w' g n (clos n M n) ∧ Below g w w' ∧ w'.heap.size = w.heap.size := by
  go_enter Try.func81, Try.ntmps81
  go_wp2
  go_loopw [3] (fun kv wr => ∃ k : Nat, k ≤ n ∧ kv = .int .i64 k ∧ Tb wr g n (clos n M k) ∧ Below g w wr ∧ wr.heap.size = w.heap.size) (fun kv _ => n - (intOf kv).toNat)
  case atStart => exact ⟨0, Nat.zero_le _, rfl, hT, Below.refl _ _, rfl⟩
  case round =>
    obtain ⟨k, hk, rfl, htb, hbel, hsz⟩ := hrel
    by_cases hlt : k < n
    · go_wp2
      go_loopw [4] (fun vv wr => ∃ v : Nat, v ≤ n ∧ vv = .int .i64 v ∧ Tb wr g n (closPlane n (clos n M k) k v) ∧ Below g w wr ∧ wr.heap.size = w.heap.size) (fun vv _ => n - (intOf vv).toNat)
      case atStart => exact ⟨0, Nat.zero_le _, rfl, htb, hbel, hsz⟩
      case round =>
        rename_i hrel
        obtain ⟨v, hv, rfl, htb, hbel, hsz⟩ := hrel
        by_cases hlt1 : v < n
        · go_wp2
          go_loopw [5] (fun xv wr => ∃ x : Nat, x ≤ n ∧ xv = .int .i64 x ∧ Tb wr g n (closRow (closPlane n (clos n M k) k v) k v x) ∧ Below g w wr ∧ wr.heap.size = w.heap.size) (fun xv _ => n - (intOf xv).toNat)
          case atStart => exact ⟨0, Nat.zero_le _, rfl, htb, hbel, hsz⟩
          case round =>
            rename_i hrel
            obtain ⟨x, hx, rfl, htb, hbel, hsz⟩ := hrel
            by_cases hlt2 : x < n
            · have hnext : closRow (closPlane n (clos n M k) k v) k v (x + 1) = upd (closRow (closPlane n (clos n M k) k v) k v x) v x (closRow (closPlane n (clos n M k) k v) k v x v x || closRow (closPlane n (clos n M k) k v) k v x v k && closRow (closPlane n (clos n M k) k v) k v x k x) := rfl
              generalize closRow (closPlane n (clos n M k) k v) k v x = T at *
              have hv0 := htb.at' v hlt1
              have hk0 := htb.at' k hlt
              have kvk := htb.cell v k hlt1 hlt
              have kkx := htb.cell k x hlt hlt2
              have kvx := htb.cell v x hlt1 hlt2
              have kf := htb.free v x hlt1
              have Hput := Lib.hid (htb.put v x true hlt1)
              have Hsame := Lib.hid (upd_same T v x)
              have Htb := Lib.hid htb
              have Hnext := Lib.hid hnext
              clear hnext
              generalize ha : T v k = a at *
              generalize hb : T k x = c at *
              generalize hc : T v x = d at *
              clear ha hb hc
              cases a
              · have hb2 := Hsame.out d rfl
                have Hb2 := Lib.hid hb2
                clear hb2
                rw [Bool.false_and, Bool.or_false, Hb2.out] at Hnext
                go_wp2
                go_roundw
                case rel => exact ⟨x + 1, by omega, by go_num, by rw [Hnext.out]; exact Htb.out, hbel, hsz⟩
                case measure => simp [intOf]; omega
              · cases c
                · have hb2 := Hsame.out d rfl
                  have Hb2 := Lib.hid hb2
                  clear hb2
                  rw [Bool.true_and, Bool.or_false, Hb2.out] at Hnext
                  go_wp2
                  go_roundw
                  case rel => exact ⟨x + 1, by omega, by go_num, by rw [Hnext.out]; exact Htb.out, hbel, hsz⟩
                  case measure => simp [intOf]; omega
                · rw [Bool.true_and, Bool.or_true] at Hnext
                  go_wp2
                  go_roundw
                  case rel => exact ⟨x + 1, by omega, by go_num, by rw [Hnext.out]; exact Hput.out, hbel.setCell (show g ≤ g + 1 + v by omega) _, by simp; exact hsz⟩
                  case measure => simp [intOf]; omega
            · obtain rfl : x = n := by omega
              go_wp2
              go_roundw
              case rel => exact ⟨v + 1, by omega, by go_num, htb, hbel, hsz⟩
              case measure => simp [intOf]; omega
        · obtain rfl : v = n := by omega
          go_wp2
          go_roundw
          case rel => exact ⟨k + 1, by omega, by go_num, htb, hbel, hsz⟩
          case measure => simp [intOf]; omega
    · obtain rfl : k = n := by omega
      go_wp2
      go_ret
      exact ⟨rfl, htb, hbel, hsz⟩

/-- Whether the first table's pairs are the second's. -/
def subB (n : Nat) (M N : Nat → Nat → Bool) : Bool := decide (∀ i, i < n → ∀ k, k < n → M i k = true → N i k = true)

set_option maxRecDepth 100000 in
set_option maxHeartbeats 2000000 in
theorem rweak_any (b off n cap b' off' cap' : Nat) (p q : List Nat) (w : World) (hS : Sl .i64 w (some ⟨b, off, none⟩) n p) (hT : Sl .i64 w (some ⟨b', off', none⟩) n q) (hp : IsPerm p) (hq : IsPerm q) (hn : n ≤ 60) (h0 : 0 < n) :
    Calls Try.prog 45 #[.slice (some ⟨b, off, none⟩) n cap, .slice (some ⟨b', off', none⟩) n cap'] w fun e w' => e = .returned (.bool (subB n (invM p) (invM q))) ∧ Below w.heap.size w w' := by
  go_enter Try.func45, Try.ntmps45
  have h1 := rtable_any b off n cap p w hS hp hn h0
  have H1 := Lib.hid h1
  clear h1 hS
  go_wp2_with fail
  refine H1.out.mono ?_
  rintro e w1 ⟨g, rfl, hg, htb, hb1⟩
  have hT1 := hT.below hb1
  clear hT H1
  have H2 := Lib.hid (rtable_any b' off' n cap' q w1 hT1 hq hn h0)
  have hg0 := htb.size h0
  clear hT1
  go_wp2_with fail
  refine H2.out.mono ?_
  rintro e w2 ⟨g2, rfl, hg2, htb2, hb2⟩
  have htb1 := htb.below hb2
  have hbel := hb1.trans (hb2.mono hb1.size)
  clear htb hb1 hb2 H2
  go_wp2_with fail
  generalize hMe : invM p = M at *
  generalize hNe : invM q = N at *
  have HMN := Lib.hid (show subB n (invM p) (invM q) = subB n M N by rw [hMe, hNe])
  clear hMe hNe
  go_loop [7] (fun iv => ∃ i : Nat, iv = .int .i64 i ∧ i ≤ n ∧ ∀ a, a < i → ∀ k, k < n → M a k = true → N a k = true) (fun iv => n - (intOf iv).toNat)
  case atStart => exact ⟨0, rfl, Nat.zero_le _, fun a ha => absurd ha (Nat.not_lt_zero _)⟩
  case round =>
    obtain ⟨i, rfl, hi, hok⟩ := hrel
    by_cases hlt : i < n
    · go_wp2
      go_loop [8] (fun jv => ∃ j : Nat, jv = .int .i64 j ∧ j ≤ n ∧ ∀ k, k < j → M i k = true → N i k = true) (fun jv => n - (intOf jv).toNat)
      case atStart => exact ⟨0, rfl, Nat.zero_le _, fun a ha => absurd ha (Nat.not_lt_zero _)⟩
      case round =>
        rename_i hrel
        obtain ⟨j, rfl, hj, hokj⟩ := hrel
        have Hok := Lib.hid hok
        have Hokj := Lib.hid hokj
        clear hok hokj
        by_cases hltj : j < n
        · have a1 := htb1.at' i hlt
          have a2 := htb2.at' i hlt
          have c1 := htb1.cell i j hlt hltj
          have c2 := htb2.cell i j hlt hltj
          have Hbad := Lib.hid (show M i j = true → N i j = false → subB n M N = false from fun h1 h2 => decide_eq_false fun hall => by rw [hall i hlt j hltj h1] at h2; cases h2)
          generalize hm : M i j = m at *
          generalize hn' : N i j = s at *
          have Hms := Lib.hid (And.intro hm hn')
          clear hm hn'
          cases m
          · go_wp2
            go_round
            case rel =>
              refine ⟨j + 1, by go_num, by omega, fun d hd => ?_⟩
              by_cases e : d < j
              · exact Hokj.out d e
              · obtain rfl : d = j := by omega
                rw [Hms.out.1]
                exact fun h => by cases h
            case measure => simp [intOf]; omega
          · cases s
            · have Hf := Lib.hid (Hbad.out rfl rfl)
              go_wp2
              go_ret
              exact ⟨by rw [HMN.out, Hf.out]; rfl, hbel⟩
            · go_wp2
              go_round
              case rel =>
                refine ⟨j + 1, by go_num, by omega, fun d hd => ?_⟩
                by_cases e : d < j
                · exact Hokj.out d e
                · obtain rfl : d = j := by omega
                  exact fun _ => Hms.out.2
              case measure => simp [intOf]; omega
        · obtain rfl : j = n := by omega
          go_wp2
          go_round
          case rel =>
            refine ⟨i + 1, by go_num, by omega, fun a ha => ?_⟩
            by_cases e : a < i
            · exact Hok.out a e
            · obtain rfl : a = i := by omega
              exact Hokj.out
          case measure => simp [intOf]; omega
    · obtain rfl : i = n := by omega
      have Ht := Lib.hid (show subB i M N = true from decide_eq_true hok)
      clear hok
      go_wp2
      go_ret
      exact ⟨by rw [HMN.out, Ht.out]; rfl, hbel⟩

end Go.Proofs.Ytcklgdcjedikoaa

namespace Go.Proofs.Ytcklgdcjedikoaa
open Go.RowKit

/-- How many at the head of the list v is not inverted with. -/
def headN (M : Nat → Nat → Bool) (v : Nat) (l : List Nat) : Nat := (l.takeWhile fun x => !M v x).length
theorem headN_le (M : Nat → Nat → Bool) (v : Nat) (l : List Nat) : headN M v l ≤ l.length := (List.takeWhile_prefix _).length_le
theorem headN_is (M : Nat → Nat → Bool) (v : Nat) : ∀ (l : List Nat) (k : Nat), k ≤ l.length → (∀ j, j < k → M v (l.getD j 0) = false) → (k < l.length → M v (l.getD k 0) = true) → headN M v l = k
  | [], k, hk, _, _ => by
    simp at hk
    subst hk
    rfl
  | x :: l, 0, _, _, h => by
    have := h (by simp)
    simp at this
    simp [headN, this]
  | x :: l, k + 1, hk, h1, h2 => by
    have h0 := h1 0 (by omega)
    simp at h0
    have hr := headN_is M v l k (by simpa using hk) (fun j hj => by simpa using h1 (j + 1) (by omega)) (fun h => by simpa using h2 (by simpa using h))
    unfold headN at hr ⊢
    rw [List.takeWhile_cons, h0]
    simp [hr]
/-- The first v values in their order. -/
def ordIns (M : Nat → Nat → Bool) : Nat → List Nat
  | 0 => []
  | v + 1 => (ordIns M v).take (headN M v (ordIns M v)) ++ [v] ++ (ordIns M v).drop (headN M v (ordIns M v))
theorem ordIns_length (M : Nat → Nat → Bool) : ∀ v, (ordIns M v).length = v
  | 0 => rfl
  | v + 1 => by
    have := headN_le M v (ordIns M v)
    rw [ordIns, List.length_append, List.length_append, List.length_take, List.length_drop, ordIns_length M v]
    rw [ordIns_length M v] at this
    simp
    omega
theorem ordIns_lt (M : Nat → Nat → Bool) : ∀ v x, x ∈ ordIns M v → x < v
  | 0, x, h => by simp [ordIns] at h
  | v + 1, x, h => by
    rw [ordIns] at h
    rcases List.mem_append.1 h with h | h
    · rcases List.mem_append.1 h with h | h
      · have := ordIns_lt M v x (List.mem_of_mem_take h); omega
      · simp at h; omega
    · have := ordIns_lt M v x (List.mem_of_mem_drop h); omega
theorem ordIns_at (M : Nat → Nat → Bool) (v k : Nat) (h : k < v) : (ordIns M v).getD k 0 < v := by
  have hl := ordIns_length M v
  have : (ordIns M v).getD k 0 = (ordIns M v)[k]'(by omega) := by simp [List.getD_eq_getElem?_getD, show k < (ordIns M v).length by omega]
  rw [this]
  exact ordIns_lt M v _ (List.getElem_mem _)

theorem own_low {w : World} {B B' size n : Nat} {e : TypeId} {v : Value} {xs : List Value} (h : w.ownsRow B e size v n xs) (hB : B' ≤ B) : w.ownsRow B' e size v n xs := by
  obtain ⟨hl, h1 | ⟨g, cap, cur, e1, hb, rest⟩⟩ := h
  · exact ⟨hl, .inl h1⟩
  · exact ⟨hl, .inr ⟨g, cap, cur, e1, Nat.le_trans hB hb, rest⟩⟩

/-- append of nothing. -/
theorem run_append_nil {P : Program} {t ty e : TypeId} {i : TypeInfo} (ht : P.underlying t = some (.slice e)) (hi : P.info? e = some i) (A : Option Addr) (n c : Nat) (hn : n ≤ c) (w : World) :
    (Builtin.append_ #[t, t] ty #[.slice A n c, .slice none 0 0]).run P w = .ok (.slice A n c) w := by
  cases A with
  | none => simp [Builtin.append_, run_underlying ht, sizeOf, typeInfo, hi, Builtin.lenOf, Builtin.firstCells, hn]
  | some ad => simp [Builtin.append_, run_underlying ht, sizeOf, typeInfo, hi, Builtin.lenOf, Builtin.firstCells, loadCells, storeCells, hn]

set_option maxRecDepth 100000 in
set_option maxHeartbeats 2000000 in
theorem rordered_any (g n : Nat) (M : Nat → Nat → Bool) (w : World) (hT : Tb w g n M) (hn : n ≤ 60) (h0 : 0 < n) :
    Calls Try.prog 80 #[.slice (some ⟨g, 0, none⟩) n n] w (RetOwn (ordIns M n) w) := by
  obtain ⟨i0, hi, hz0, hz1, hz2⟩ := info_parts info_int'
  go_enter Try.func80, Try.ntmps80
  go_wp2
  go_loopw [3, 4] (fun ov vv wr => ∃ v : Nat, v ≤ n ∧ vv = .int .i64 v ∧ wr.ownsRow w.heap.size 3 1 ov v (nums .i64 (ordIns M v)) ∧ (v = 0 → ov = .slice none 0 0) ∧ Below w.heap.size w wr) (fun _ vv _ => n - (intOf vv).toNat)
  case atStart => exact ⟨0, Nat.zero_le _, rfl, World.ownsRow_nil _ _ _ _, fun _ => rfl, Below.refl _ _⟩
  case round =>
    obtain ⟨v, hv, rfl, hown, hnil, hbel⟩ := hrel
    by_cases hlt : v < n
    · have htb := hT.below hbel
      have hlen := ordIns_length M v
      have Hltl := Lib.hid (fun k hk => ordIns_at M v k hk)
      have Hhead := Lib.hid (headN_is M v (ordIns M v))
      have Hnext := Lib.hid (show ordIns M (v + 1) = (ordIns M v).take (headN M v (ordIns M v)) ++ [v] ++ (ordIns M v).drop (headN M v (ordIns M v)) from rfl)
      rw [hlen] at Hhead
      have hv0 := htb.at' v hlt
      obtain ⟨A, cp, rfl, hsl, hA⟩ := own_read hown (by omega)
      have Hown := Lib.hid hown
      have Hsl := Lib.hid hsl
      have HA := Lib.hid hA
      have Hnil := Lib.hid hnil
      have Htb := Lib.hid htb
      generalize ordIns M v = l at *
      clear hown hsl hA hnil htb
      go_wp2
      obtain ⟨wo, rfl⟩ : ∃ wo : World, wo = wr := ⟨_, rfl⟩
      go_loopw [5] (fun av wr => ∃ k : Nat, k ≤ v ∧ av = .int .i64 k ∧ (∀ j, j < k → M v (l.getD j 0) = false) ∧ Drew wo wr) (fun av _ => v - (intOf av).toNat)
      case atStart => exact ⟨0, Nat.zero_le _, rfl, fun j hj => absurd hj (Nat.not_lt_zero _), Drew.refl _⟩
      case round =>
        obtain ⟨k, hk, rfl, hno, q, rfl⟩ := hrel
        have Hno := Lib.hid hno
        clear hno
        by_cases hkl : k < v ∧ M v (l.getD k 0) = false
        · obtain ⟨hkl, hm⟩ := hkl
          obtain ⟨go, rfl, hgo, h1, h2⟩ := HA.out (by omega)
          have ck := own_num Hown.out k hkl
          have hx := Hltl.out k hkl
          have Hm := Lib.hid hm
          have cm := Htb.out.cell v (l.getD k 0) hlt (by omega)
          rw [hm] at cm
          clear hm
          generalize hxe : l.getD k 0 = x at *
          have Hxe := Lib.hid hxe
          clear hxe
          go_wp2
          go_quiet (fail)
          go_wp2
          go_roundw
          case rel =>
            refine ⟨k + 1, by omega, by go_num, fun j hj => ?_, by exact ⟨_, rfl⟩⟩
            by_cases e : j < k
            · exact Hno.out j e
            · obtain rfl : j = k := by omega
              rw [Hxe.out]
              exact Hm.out
          case measure => simp [intOf]; omega
        · have hat := Hhead.out k hk Hno.out (fun h => by
            cases e : M v (l.getD k 0)
            · exact absurd ⟨h, e⟩ hkl
            · rfl)
          rw [hat] at Hnext
          have Hat := Lib.hid hat
          clear hat
          by_cases hkv : k < v
          · have hm : M v (l.getD k 0) = true := by
              cases e : M v (l.getD k 0)
              · exact absurd ⟨hkv, e⟩ hkl
              · rfl
            obtain ⟨go, rfl, hgo, h1, h2⟩ := HA.out (by omega)
            have ck := own_num Hown.out k hkv
            have hx := Hltl.out k hkv
            have cm := Htb.out.cell v (l.getD k 0) hlt (by omega)
            rw [hm] at cm
            clear hm hkl
            generalize l.getD k 0 = x at *
            go_wp2
            go_quiet (fail)
            go_wp2_with (at_builtin; refine Hid.out ?_)
            have hX : Sl .i64 (wo.drewN (q + nq)) (some ⟨go, 0, none⟩) v l := Hsl.out.drewN _
            have hbX := below_drewN hbel (q + nq)
            have HXX := Lib.hid hX
            have HbX := Lib.hid hbX
            generalize wo.drewN (q + nq) = X at *
            have hn1 := (hX.take (m := k) (by omega)).cellsAt
            have hn2 : 0 + k ≤ maxLen := by unfold maxLen; omega
            have hn3 : (0 + k) * 8 ≤ 140737488355328 := by omega
            have hn4 : (nums .i64 (l.take k)).length = k * 1 := by rw [nums_length, List.length_take]; omega
            refine Lib.hid ?_
            refine wpList_append_own _ rfl _ _ 22 rfl X.heap.size 3 i0 (.int .i64 0) 1 8 Try.underlying22 hi hz0 hz1 hz2 rfl (by decide) (.slice none 0 0) 0 [] rfl (World.ownsRow_nil _ _ _ _) ⟨go, 0, none⟩ k cp (nums .i64 (l.take k)) rfl hn4 hn1 (one_of_cells _ _) hn2 hn3 (Nat.le_refl _) ?_
            intro v2 w2 hown2 hgrow2 _
            have hb2 : Below X.heap.size X w2 := (Below.refl _ _).grown hgrow2 (Nat.le_refl _) (fun k e => by cases e)
            have hs2 := hb2.size
            have Hb2 := Lib.hid hb2
            clear hX hbX hgrow2 hn1 hn4 ck cm hb2
            have h63 : 0 + k + 1 ≤ maxLen := by unfold maxLen; omega
            have h47 : (0 + k + 1) * 8 ≤ 140737488355328 := by omega
            go_wp2_with (at_builtin; refine wpList_append_own _ rfl _ _ 22 rfl X.heap.size 3 i0 (.int .i64 0) 1 8 Try.underlying22 hi hz0 hz1 hz2 rfl (by decide) _ _ _ rfl (hown2.alloc _) ⟨w2.heap.size, 0, none⟩ 1 1 [.int .i64 (v : Nat)] rfl rfl (cell_one_new _ _ _) (one_cell _ rfl) h63 h47 (alloc_size_le _ _ hs2) ?_)
            intro v3 w3 hown3 hgrow3 _
            have hb3 := Hb2.out.trans (own_below hown2 hs2 hgrow3)
            have hs3 := hb3.size
            have hX3 := HXX.out.below hb3
            have hn5 := (hX3.drop (m := k) (by omega)).cellsAt
            rw [Nat.zero_add] at hn5
            have Hown3 := Lib.hid hown3
            have Hn5 := Lib.hid hn5
            have Hb3 := Lib.hid hb3
            clear hown2 hgrow3 hX3 hn5 hb3 hown3
            have hq2 : k + 1 + (v - k) ≤ maxLen := by unfold maxLen; omega
            have hq3 : (k + 1 + (v - k)) * 8 ≤ 140737488355328 := by omega
            have hq4 : (nums .i64 (l.drop k)).length = (v - k) * 1 := by rw [nums_length, List.length_drop]; omega
            have Hfin := Lib.hid (show nums .i64 (l.take k) ++ .int .i64 ((v : Nat) : Int) :: nums .i64 (l.drop k) = nums .i64 (ordIns M (v + 1)) by rw [Hnext.out]; simp [nums])
            have Hm' := Lib.hid (show k + 1 + (v - k) = v + 1 by omega)
            have hck : ¬ cp = k := by omega
            go_wp2_with (at_builtin; refine wpList_append_own _ rfl _ _ 22 rfl X.heap.size 3 i0 (.int .i64 0) 1 8 Try.underlying22 hi hz0 hz1 hz2 rfl (by decide) v3 (k + 1) (nums .i64 (l.take k) ++ [.int .i64 (v : Nat)]) rfl Hown3.out ⟨go, k, none⟩ (v - k) (cp - k) (nums .i64 (l.drop k)) rfl hq4 Hn5.out (one_of_cells _ _) hq2 hq3 hs3 ?_)
            intro v4 w4 hown4 hgrow4 _
            have hb4 := Hb3.out.trans ((Below.refl _ w3).grown hgrow4 hs3 (fun j e => (Hown3.out.lt j e).1))
            have hown5 := own_low hown4 HbX.out.size
            rw [Hfin.out, Hm'.out] at hown5
            have hb5 := HbX.out.trans (hb4.mono HbX.out.size)
            clear hown4 hgrow4
            go_wp2
            go_roundw
            case rel => exact ⟨v + 1, by omega, by go_num, hown5, fun h => absurd h (by omega), hb5⟩
            case measure => simp [intOf]; omega
          · obtain rfl : k = v := by omega
            clear hkl
            by_cases hv1 : 0 < k
            · obtain ⟨go, rfl, hgo, h1, h2⟩ := HA.out hv1
              go_wp2
              go_quiet (fail)
              go_wp2_with (at_builtin; refine Hid.out ?_)
              have hX : Sl .i64 (wo.drewN (q + nq)) (some ⟨go, 0, none⟩) k l := Hsl.out.drewN _
              have hbX := below_drewN hbel (q + nq)
              have HXX := Lib.hid hX
              have HbX := Lib.hid hbX
              generalize wo.drewN (q + nq) = X at *
              have hn1 := (hX.take (m := k) (by omega)).cellsAt
              have hn2 : 0 + k ≤ maxLen := by unfold maxLen; omega
              have hn3 : (0 + k) * 8 ≤ 140737488355328 := by omega
              have hn4 : (nums .i64 (l.take k)).length = k * 1 := by rw [nums_length, List.length_take]; omega
              refine Lib.hid ?_
              refine wpList_append_own _ rfl _ _ 22 rfl X.heap.size 3 i0 (.int .i64 0) 1 8 Try.underlying22 hi hz0 hz1 hz2 rfl (by decide) (.slice none 0 0) 0 [] rfl (World.ownsRow_nil _ _ _ _) ⟨go, 0, none⟩ k cp (nums .i64 (l.take k)) rfl hn4 hn1 (one_of_cells _ _) hn2 hn3 (Nat.le_refl _) ?_
              intro v2 w2 hown2 hgrow2 _
              have hb2 : Below X.heap.size X w2 := (Below.refl _ _).grown hgrow2 (Nat.le_refl _) (fun k e => by cases e)
              have hs2 := hb2.size
              have Hb2 := Lib.hid hb2
              clear hX hbX hgrow2 hn1 hn4 hb2
              have h63 : 0 + k + 1 ≤ maxLen := by unfold maxLen; omega
              have h47 : (0 + k + 1) * 8 ≤ 140737488355328 := by omega
              go_wp2_with (at_builtin; refine wpList_append_own _ rfl _ _ 22 rfl X.heap.size 3 i0 (.int .i64 0) 1 8 Try.underlying22 hi hz0 hz1 hz2 rfl (by decide) _ _ _ rfl (hown2.alloc _) ⟨w2.heap.size, 0, none⟩ 1 1 [.int .i64 (k : Nat)] rfl rfl (cell_one_new _ _ _) (one_cell _ rfl) h63 h47 (alloc_size_le _ _ hs2) ?_)
              intro v3 w3 hown3 hgrow3 _
              have hb3 := Hb2.out.trans (own_below hown2 hs2 hgrow3)
              have hs3 := hb3.size
              have hX3 := HXX.out.below hb3
              have hn5 := (hX3.drop (m := k) (by omega)).cellsAt
              rw [Nat.zero_add] at hn5
              have Hown3 := Lib.hid hown3
              have Hn5 := Lib.hid hn5
              have Hb3 := Lib.hid hb3
              clear hown2 hgrow3 hX3 hn5 hb3 hown3
              have hq2 : k + 1 + (k - k) ≤ maxLen := by unfold maxLen; omega
              have hq3 : (k + 1 + (k - k)) * 8 ≤ 140737488355328 := by omega
              have hq4 : (nums .i64 (l.drop k)).length = (k - k) * 1 := by rw [nums_length, List.length_drop]; omega
              have Hfin := Lib.hid (show nums .i64 (l.take k) ++ .int .i64 ((k : Nat) : Int) :: nums .i64 (l.drop k) = nums .i64 (ordIns M (k + 1)) by rw [Hnext.out]; simp [nums])
              have Hm' := Lib.hid (show k + 1 + (k - k) = k + 1 by omega)
              have hd : l.drop k = [] := List.drop_eq_nil_of_le (by omega)
              have hfin := Hfin.out
              rw [hd] at hfin hq4
              have hk0 : k - k = 0 := by omega
              have hm' := Hm'.out
              rw [hk0] at hm' hq2 hq3 hq4
              have Hfin2 := Lib.hid hfin
              have Hm2 := Lib.hid hm'
              clear hd hfin hm' hk0 hq4
              by_cases hck : cp = k
              · subst hck
                go_wp2_with (at_builtin; refine wpList_append_own _ rfl _ _ 22 rfl X.heap.size 3 i0 (.int .i64 0) 1 8 Try.underlying22 hi hz0 hz1 hz2 rfl (by decide) v3 (cp + 1) (nums .i64 (l.take cp) ++ [.int .i64 (cp : Nat)]) rfl Hown3.out ⟨go, 0, none⟩ 0 0 [] rfl rfl (fun j u h => by simp at h) (fun u h => by simp at h) hq2 hq3 hs3 ?_)
                intro v4 w4 hown4 hgrow4 _
                have hb4 := Hb3.out.trans ((Below.refl _ w3).grown hgrow4 hs3 (fun j e => (Hown3.out.lt j e).1))
                have hown5 := own_low hown4 HbX.out.size
                have hown6 : w4.ownsRow w.heap.size 3 1 v4 (cp + 1) (nums .i64 (ordIns M (cp + 1))) := by
                  have hfin := Hfin2.out
                  rw [← hfin]
                  simpa [nums] using hown5
                have hb5 := HbX.out.trans (hb4.mono HbX.out.size)
                clear hown4 hown5 hgrow4
                go_wp2
                go_roundw
                case rel => exact ⟨cp + 1, by omega, by go_num, hown6, fun h => absurd h (by omega), hb5⟩
                case measure => simp [intOf]; omega
              · go_wp2_with (at_builtin; refine wpList_append_own _ rfl _ _ 22 rfl X.heap.size 3 i0 (.int .i64 0) 1 8 Try.underlying22 hi hz0 hz1 hz2 rfl (by decide) v3 (k + 1) (nums .i64 (l.take k) ++ [.int .i64 (k : Nat)]) rfl Hown3.out ⟨go, k, none⟩ 0 (cp - k) [] rfl rfl (fun j u h => by simp at h) (fun u h => by simp at h) hq2 hq3 hs3 ?_)
                intro v4 w4 hown4 hgrow4 _
                have hb4 := Hb3.out.trans ((Below.refl _ w3).grown hgrow4 hs3 (fun j e => (Hown3.out.lt j e).1))
                have hown5 := own_low hown4 HbX.out.size
                have hown6 : w4.ownsRow w.heap.size 3 1 v4 (k + 1) (nums .i64 (ordIns M (k + 1))) := by
                  have hfin := Hfin2.out
                  rw [← hfin]
                  simpa [nums] using hown5
                have hb5 := HbX.out.trans (hb4.mono HbX.out.size)
                clear hown4 hown5 hgrow4
                go_wp2
                go_roundw
                case rel => exact ⟨k + 1, by omega, by go_num, hown6, fun h => absurd h (by omega), hb5⟩
                case measure => simp [intOf]; omega
            · obtain rfl : k = 0 := by omega
              have hl0 : l = [] := List.eq_nil_of_length_eq_zero hlen
              subst hl0
              have hnil := Hnil.out rfl
              injection hnil with hA0 _ hcp
              subst hA0 hcp
              go_wp2
              go_quiet (fail)
              go_wp2_with (at_builtin; refine Hid.out ?_)
              have hbX := below_drewN hbel (q + nq)
              have HbX := Lib.hid hbX
              generalize wo.drewN (q + nq) = X at *
              clear hbX
              refine Lib.hid ?_
              refine wpList_append_run rfl rfl rfl rfl (run_append_nil Try.underlying22 hi none 0 0 (Nat.le_refl _) X) ?_
              have h63 : 0 + 1 ≤ maxLen := by unfold maxLen; omega
              have h47 : (0 + 1) * 8 ≤ 140737488355328 := by omega
              have hX0 : X.ownsRow X.heap.size 3 1 (.slice none 0 0) 0 [] := World.ownsRow_nil _ _ _ _
              go_wp2_with (at_builtin; refine wpList_append_own _ rfl _ _ 22 rfl X.heap.size 3 i0 (.int .i64 0) 1 8 Try.underlying22 hi hz0 hz1 hz2 rfl (by decide) _ _ _ rfl (hX0.alloc _) ⟨X.heap.size, 0, none⟩ 1 1 [.int .i64 0] rfl rfl (cell_one_new _ _ _) (one_cell _ rfl) h63 h47 (alloc_size_le _ _ (Nat.le_refl _)) ?_)
              intro v3 w3 hown3 hgrow3 _
              have hb3 := own_below hX0 (Nat.le_refl _) hgrow3
              obtain ⟨g3, c3, rfl⟩ := own_pos hown3 (by omega)
              have hc3 : 0 + 1 ≤ c3 := own_capd hown3
              have Hown3 := Lib.hid hown3
              clear hown3 hgrow3
              go_wp2_with (at_builtin; refine wpList_append_run rfl rfl rfl rfl (run_append_nil Try.underlying22 hi _ _ _ hc3 w3) ?_)
              have hown6 : w3.ownsRow w.heap.size 3 1 (.slice (some ⟨g3, 0, none⟩) 1 c3) 1 (nums .i64 (ordIns M (0 + 1))) := by
                have h := own_low Hown3.out HbX.out.size
                rw [Hnext.out]
                simpa [nums] using h
              have hb5 := HbX.out.trans (hb3.mono HbX.out.size)
              go_wp2
              go_roundw
              case rel => exact ⟨1, by omega, by go_num, hown6, fun h => absurd h (by omega), hb5⟩
              case measure => simp [intOf]; omega
    · obtain rfl : v = n := by omega
      obtain ⟨g', c', rfl⟩ := own_pos hown h0
      have Hl := Lib.hid (ordIns_length M v)
      go_wp2
      go_ret
      exact ⟨g', c', by rw [Hl.out]; rfl, by rw [Hl.out]; exact hown, hbel⟩

end Go.Proofs.Ytcklgdcjedikoaa

namespace Go.Proofs.Ytcklgdcjedikoaa
open Go.RowKit

/-- The reference's join. -/
def rjoinL (p q : List Nat) : List Nat := ordIns (clos p.length (withTo p.length (invM p) (invM q) p.length 0) p.length) p.length
theorem rjoinL_length (p q : List Nat) : (rjoinL p q).length = p.length := ordIns_length _ _

theorem RetOwn.sl {l : List Nat} {w w' : World} {e : Ending} (h : RetOwn l w e w') (hl : l.length ≤ 60) : ∃ g c, e = .returned (.slice (some ⟨g, 0, none⟩) l.length c) ∧ w.heap.size ≤ g ∧ Sl .i64 w' (some ⟨g, 0, none⟩) l.length l ∧ Below w.heap.size w w' := by
  obtain ⟨g, c, e1, hown, hb⟩ := h
  exact ⟨g, c, e1, (own_lt hown).2, own_sl hown (by omega), hb⟩

set_option maxRecDepth 100000 in
set_option maxHeartbeats 2000000 in
theorem rjoin_any (b off n cap b' off' cap' : Nat) (p q : List Nat) (w : World) (hS : Sl .i64 w (some ⟨b, off, none⟩) n p) (hT : Sl .i64 w (some ⟨b', off', none⟩) n q) (hp : IsPerm p) (hq : IsPerm q) (hn : n ≤ 60) (h0 : 0 < n) :
    Calls Try.prog 47 #[.slice (some ⟨b, off, none⟩) n cap, .slice (some ⟨b', off', none⟩) n cap'] w (RetOwn (rjoinL p q) w) := by
  have hpl := hS.len
  have Hrj := Lib.hid (show rjoinL p q = ordIns (clos n (withTo n (invM p) (invM q) n 0) n) n by rw [← hpl]; rfl)
  go_enter Try.func47, Try.ntmps47
  have h1 := rtable_any b off n cap p w hS hp hn h0
  have H1 := Lib.hid h1
  clear h1 hS hpl
  go_wp2_with fail
  refine H1.out.mono ?_
  rintro e w1 ⟨g, rfl, hg, htb, hb1⟩
  have hT1 := hT.below hb1
  clear hT H1
  have H2 := Lib.hid (rtable_any b' off' n cap' q w1 hT1 hq hn h0)
  have hg0 := htb.size h0
  clear hT1
  go_wp2_with fail
  refine H2.out.mono ?_
  rintro e w2 ⟨g2, rfl, hg2, htb2, hb2⟩
  have htb1 := htb.below hb2
  have hbel0 := hb1.trans (hb2.mono hb1.size)
  clear htb hb1 hb2 H2
  go_wp2_with fail
  generalize hMe : invM p = M at *
  generalize hNe : invM q = N at *
  clear hMe hNe
  go_loopw [7] (fun iv wr => ∃ v : Nat, v ≤ n ∧ iv = .int .i64 v ∧ Tb wr g n (withTo n M N v 0) ∧ Tb wr g2 n N ∧ Below w.heap.size w wr) (fun iv _ => n - (intOf iv).toNat)
  case atStart => exact ⟨0, Nat.zero_le _, rfl, by rw [withTo_start]; exact htb1, htb2, hbel0⟩
  case round =>
    clear htb1 htb2 hbel0
    obtain ⟨v, hv, rfl, htb1, htb2, hbel⟩ := hrel
    by_cases hlt : v < n
    · go_wp2_with fail
      go_loopw [8] (fun jv wr => ∃ x : Nat, x ≤ n ∧ jv = .int .i64 x ∧ Tb wr g n (withTo n M N v x) ∧ Tb wr g2 n N ∧ Below w.heap.size w wr) (fun jv _ => n - (intOf jv).toNat)
      case atStart => exact ⟨0, Nat.zero_le _, rfl, htb1, htb2, hbel⟩
      case round =>
        rename_i hrel
        obtain ⟨x, hx, rfl, htb1, htb2, hbel⟩ := hrel
        by_cases hltx : x < n
        · have a1 := htb1.at' v hlt
          have a2 := htb2.at' v hlt
          have c1 := htb1.cell v x hlt hltx
          rw [withTo_here] at c1
          have c2 := htb2.cell v x hlt hltx
          have kf := htb1.free v x hlt
          have Hput := Lib.hid (fun b => htb1.put v x b hlt)
          have Hstep := Lib.hid (withTo_step (M1 := M) (M2 := N) hlt hltx)
          have Htb2 := Lib.hid htb2
          have ho : ∀ b, Only (g + 1 + v) wr (wr.setCell ⟨g + 1 + v, x, none⟩ (.bool b)) := fun b => (Only.refl _ _).setCell _ _
          have Htb3 := Lib.hid (fun b => (⟨(ho b).blk (by omega) htb2.head, fun i hi => (ho b).blk (by omega) (htb2.row i hi)⟩ : Tb (wr.setCell ⟨g + 1 + v, x, none⟩ (.bool b)) g2 n N))
          clear ho htb1 htb2
          generalize withTo n M N v x = T at *
          generalize M v x = m at *
          generalize N v x = s at *
          cases m
          · go_wp2_with fail
            go_region
            all_goals
              go_wp2_with fail
              go_roundw
              case rel => exact ⟨x + 1, by omega, by go_num, by
                rw [← Hstep.out, Bool.false_or]
                exact (Hput.out s).drewN 1, (Htb3.out s).drewN 1, (hbel.setCell (show w.heap.size ≤ g + 1 + v by omega) _).drew⟩
              case measure => simp [intOf]; omega
          · go_wp2_with fail
            go_region
            all_goals
              go_wp2_with fail
              go_roundw
              case rel => exact ⟨x + 1, by omega, by go_num, by
                rw [← Hstep.out, Bool.true_or]
                exact (Hput.out true).drewN 1, (Htb3.out true).drewN 1, (hbel.setCell (show w.heap.size ≤ g + 1 + v by omega) _).drew⟩
              case measure => simp [intOf]; omega
        · obtain rfl : x = n := by omega
          rw [withTo_row] at htb1
          go_wp2_with fail
          go_roundw
          case rel => exact ⟨v + 1, by omega, by go_num, htb1, htb2, hbel⟩
          case measure => simp [intOf]; omega
    · obtain rfl : v = n := by omega
      have H3 := Lib.hid (rclosed_any g v (withTo v M N v 0) wr htb1 hn)
      clear htb1 htb2
      go_wp2_with fail
      refine H3.out.mono ?_
      rintro e w3 ⟨rfl, htb3, hb3, hsz3⟩
      have H4 := Lib.hid (rordered_any g v (clos v (withTo v M N v 0) v) w3 htb3 hn h0)
      clear H3 htb3
      go_wp2_with fail
      refine H4.out.mono ?_
      rintro e w4 ⟨g4, c4, rfl, hown4, hb4⟩
      have hs3 := hbel.size
      have hb5 := (hbel.trans (hb3.mono hg)).trans (hb4.mono (by omega))
      have hown5 := own_low hown4 (B' := w.heap.size) (by omega)
      have Hown5 := Lib.hid hown5
      clear hown4 hown5 H4
      go_wp2_with fail
      go_ret
      rw [Hrj.out]
      exact ⟨g4, c4, rfl, Hown5.out, hb5⟩

/-- The reference's meet. -/
def rmeetL (p q : List Nat) : List Nat := (rjoinL p.reverse q.reverse).reverse

set_option maxRecDepth 100000 in
set_option maxHeartbeats 1000000 in
theorem rmeet_any (b off n cap b' off' cap' : Nat) (p q : List Nat) (w : World) (hS : Sl .i64 w (some ⟨b, off, none⟩) n p) (hT : Sl .i64 w (some ⟨b', off', none⟩) n q) (hp : IsPerm p) (hq : IsPerm q) (hn : n ≤ 60) (h0 : 0 < n) :
    Calls Try.prog 48 #[.slice (some ⟨b, off, none⟩) n cap, .slice (some ⟨b', off', none⟩) n cap'] w (RetOwn (rmeetL p q) w) := by
  have hpl := hS.len
  have hql := hT.len
  have Hpl := Lib.hid (show p.reverse.length = n ∧ q.reverse.length = n from ⟨by rw [List.length_reverse]; exact hpl, by rw [List.length_reverse]; exact hql⟩)
  clear hpl hql
  go_enter Try.func48, Try.ntmps48
  go_wp2_with fail
  refine (rturned_any b off n cap p w hS hn h0).mono ?_
  intro e w2 hr
  obtain ⟨g2, c2, rfl, hg2, hs2, hb2⟩ := hr.sl (by rw [Hpl.out.1]; exact hn)
  rw [Hpl.out.1] at hs2 ⊢
  have hT2 := hT.below hb2
  clear hS hT hr
  go_wp2_with fail
  refine (rturned_any b' off' n cap' q w2 hT2 hn h0).mono ?_
  intro e w3 hr
  obtain ⟨g3, c3, rfl, hg3, hs3, hb3⟩ := hr.sl (by rw [Hpl.out.2]; exact hn)
  rw [Hpl.out.2] at hs3 ⊢
  have hb3' := hb2.trans (hb3.mono hb2.size)
  have hs2' := hs2.below hb3
  clear hT2 hs2 hb3 hb2 hr
  go_wp2_with fail
  refine (rjoin_any g2 0 n c2 g3 0 c3 p.reverse q.reverse w3 hs2' hs3 (isPerm_reverse hp) (isPerm_reverse hq) hn h0).mono ?_
  intro e w4 hr
  have hjl : (rjoinL p.reverse q.reverse).length = n := by rw [rjoinL_length]; exact Hpl.out.1
  obtain ⟨g4, c4, rfl, hg4, hs4, hb4⟩ := hr.sl (by rw [hjl]; exact hn)
  rw [hjl] at hs4 ⊢
  have hb4' := hb3'.trans (hb4.mono hb3'.size)
  clear hs2' hs3 hb4 hb3' hr hjl
  go_wp2_with fail
  refine (rturned_any g4 0 n c4 _ w4 hs4 hn h0).mono ?_
  rintro e w5 ⟨g5, c5, rfl, hown5, hb5⟩
  have hm : (rjoinL p.reverse q.reverse).reverse = rmeetL p q := rfl
  rw [hm] at hown5 ⊢
  have Hown5 := Lib.hid (own_low hown5 hb4'.size)
  have Hb5 := Lib.hid (hb4'.trans (hb5.mono hb4'.size))
  clear hown5 hs4 hm hb5 hb4'
  go_wp2_with fail
  go_ret
  exact ⟨g5, c5, rfl, Hown5.out, Hb5.out⟩

end Go.Proofs.Ytcklgdcjedikoaa
