/-
  The walk of inflate: blocks one after the other, raised by what lies below.
  What fill returns, in plain words: the counter and the list, or none.
-/
import Derived.Test.YtgdaidmkcgblbaaTreeI
namespace Go.Proofs.Ytgdaidmkcgblbaa
open Go.RowKit

/-- Of the first j blocks the lengths of those whose value comes before that of i, added up. -/
def belN (ord : List Nat) (ls : List (List Nat)) (i : Nat) : Nat → Nat
  | 0 => 0
  | j + 1 => belN ord ls i j + if ord.getD j 0 < ord.getD i 0 then (ls.getD j []).length else 0
/-- The first k blocks, raised. -/
def infl (ord : List Nat) (ls : List (List Nat)) : Nat → List Nat
  | 0 => []
  | k + 1 => infl ord ls k ++ (ls.getD k []).map (fun x => belN ord ls k ls.length + x)
/-- The lengths of the first k blocks, added up. -/
def lenN (ls : List (List Nat)) : Nat → Nat
  | 0 => 0
  | k + 1 => lenN ls k + (ls.getD k []).length

theorem belN_le (ord : List Nat) (ls : List (List Nat)) (i : Nat) : ∀ j, belN ord ls i j ≤ lenN ls j
  | 0 => Nat.le_refl _
  | j + 1 => by
    have := belN_le ord ls i j
    unfold belN lenN
    split <;> omega
theorem lenN_mono (ls : List (List Nat)) (i : Nat) : ∀ d, lenN ls i ≤ lenN ls (i + d)
  | 0 => Nat.le_refl _
  | d + 1 => Nat.le_trans (lenN_mono ls i d) (Nat.le_add_right _ _)
theorem lenN_le (ls : List (List Nat)) {i j : Nat} (h : i ≤ j) : lenN ls i ≤ lenN ls j := by
  have := lenN_mono ls i (j - i)
  rwa [show i + (j - i) = j by omega] at this
theorem infl_length (ord : List Nat) (ls : List (List Nat)) : ∀ k, (infl ord ls k).length = lenN ls k
  | 0 => rfl
  | k + 1 => by
    unfold infl lenN
    rw [List.length_append, List.length_map, infl_length ord ls k]
theorem infl_lt {ord : List Nat} {ls : List (List Nat)} (hv : ∀ i, i < ls.length → ∀ x ∈ ls.getD i [], x < (ls.getD i []).length)
    (hb : ∀ i, i < ls.length → belN ord ls i ls.length + (ls.getD i []).length ≤ lenN ls ls.length) : ∀ k, k ≤ ls.length → ∀ x ∈ infl ord ls k, x < lenN ls ls.length
  | 0, _, x, h => by simp [infl] at h
  | k + 1, hk, x, h => by
    unfold infl at h
    rw [List.mem_append, List.mem_map] at h
    rcases h with h | ⟨y, hy, rfl⟩
    · exact infl_lt hv hb k (by omega) x h
    · have := hv k (by omega) y hy
      have := hb k (by omega)
      omega
/-- A block's own length is not among those below it. -/
theorem belN_self (ord : List Nat) (ls : List (List Nat)) (i : Nat) : ∀ j, i < j → belN ord ls i j + (ls.getD i []).length ≤ lenN ls j
  | 0, h => absurd h (by omega)
  | j + 1, h => by
    unfold belN lenN
    by_cases e : j = i
    · subst e
      rw [if_neg (by omega)]
      have := belN_le ord ls j j
      omega
    · have := belN_self ord ls i j (by omega)
      split <;> omega

/-- A row of rows of numbers. -/
def RowsIn (w : World) (g : Nat) (ls : List (List Nat)) : Prop :=
  ∀ i, i < ls.length → ∃ A c, w.cell? ⟨g, i, none⟩ = some (.slice A (ls.getD i []).length c) ∧ Sl .i64 w A (ls.getD i []).length (ls.getD i [])
theorem RowsIn.below {w w' : World} {g : Nat} {ls : List (List Nat)} (h : RowsIn w g ls) (hg : g < w.heap.size) (hb : Below w.heap.size w w') : RowsIn w' g ls := by
  intro i hi
  obtain ⟨A, c, h1, h2⟩ := h i hi
  exact ⟨A, c, (hb.cell (p := ⟨g, i, none⟩) hg).trans h1, h2.below hb⟩

/-- A grown row of any length. -/
def RetRowV (l : List Nat) (w : World) (e : Ending) (w' : World) : Prop :=
  ∃ v, e = .returned v ∧ w'.ownsRow w.heap.size 3 1 v l.length (nums .i64 l) ∧ Below w.heap.size w w'

theorem map_take_snoc (b : Nat) (l : List Nat) (k : Nat) (h : k < l.length) : (l.map (fun x => b + x)).take (k + 1) = (l.map (fun x => b + x)).take k ++ [b + l.getD k 0] := by
  rw [← List.map_take, ← List.map_take, take_snoc l k h, List.map_append]; rfl

set_option maxRecDepth 100000 in
set_option maxHeartbeats 2000000 in
theorem inflate_any (A : Option Addr) (n cap g c : Nat) (ord : List Nat) (ls : List (List Nat)) (w : World) (hS : Sl .i64 w A n ord) (hn : ls.length = n) (hR : RowsIn w g ls) (hg : g < w.heap.size) (hT : lenN ls ls.length ≤ 1000)
    (hv : ∀ i, i < ls.length → ∀ x ∈ ls.getD i [], x ≤ 1000) (hn9 : n ≤ 1000) :
    Calls Try.prog 107 #[.slice A n cap, .slice (some ⟨g, 0, none⟩) n c] w (RetRowV (infl ord ls ls.length) w) := by
  subst hn
  obtain ⟨i0, hi, hz0, hz1, hz2⟩ := info_parts info_int'
  have hord : ∀ W, Below w.heap.size w W → ∀ i, i < ls.length → ∃ b off, A = some ⟨b, off, none⟩ ∧ W.cell? ⟨b, off + i, none⟩ = some (.int .i64 (ord.getD i 0 : Nat)) := by
    intro W hW i hi
    obtain ⟨b, off, e, hs, hc⟩ := hS.at (by omega)
    exact ⟨b, off, e, (hW.cell (p := ⟨b, off + i, none⟩) hs).trans (hc i (by omega))⟩
  have Hord := Lib.hid hord
  have Hrow := Lib.hid (fun W (hW : Below w.heap.size w W) => hR.below hg hW)
  have Hv := Lib.hid hv
  have HT := Lib.hid hT
  clear hS hR hv hT hord
  go_enter Try.func107, Try.ntmps107
  go_wp2
  go_loopw [5, 15] (fun v i wr => ∃ k : Nat, k ≤ ls.length ∧ i = .int .i64 k ∧ wr.ownsRow w.heap.size 3 1 v (lenN ls k) (nums .i64 (infl ord ls k)) ∧ Below w.heap.size w wr) (fun _ i _ => ls.length - (intOf i).toNat)
  case atStart => exact ⟨0, Nat.zero_le _, rfl, ⟨by simp [nums, infl, lenN], .inl ⟨rfl, rfl⟩⟩, Below.refl _ _⟩
  case round =>
    obtain ⟨k, hk, rfl, hown, hbel⟩ := hrel
    by_cases hlt : k < ls.length
    · obtain ⟨Ak, ck, rk0, Sk⟩ := Hrow.out w (Below.refl _ _) k hlt
      have rk := (hbel.cell (p := ⟨g, k, none⟩) hg).trans rk0
      have Hown := Lib.hid hown
      have HB := Lib.hid hbel
      have HSk := Lib.hid Sk
      have hLk := lenN_le ls (show k + 1 ≤ ls.length by omega)
      have hbk := belN_le ord ls k ls.length
      have Hbnd := Lib.hid (show lenN ls k + (ls.getD k []).length ≤ 1000 ∧ belN ord ls k ls.length ≤ 1000 from by
        have := HT.out
        have e : lenN ls (k + 1) = lenN ls k + (ls.getD k []).length := rfl
        omega)
      have Hvk := Lib.hid (Hv.out k hlt)
      have Hnext := Lib.hid (show infl ord ls (k + 1) = infl ord ls k ++ (ls.getD k []).map (fun x => belN ord ls k ls.length + x) from rfl)
      have Hlen := Lib.hid (show lenN ls (k + 1) = lenN ls k + (ls.getD k []).length from rfl)
      have Hil := Lib.hid (infl_length ord ls k)
      clear hown Sk hLk hbk rk0
      generalize ls.getD k [] = lk at *
      go_wp2
      obtain ⟨wo, rfl⟩ : ∃ wo : World, wo = wr := ⟨_, rfl⟩
      go_loopw [8, 22] (fun b i wr => ∃ j : Nat, j ≤ ls.length ∧ i = .int .i64 j ∧ b = .int .i64 (belN ord ls k j : Nat) ∧ Drew wo wr) (fun _ i _ => ls.length - (intOf i).toNat)
      case atStart => exact ⟨0, Nat.zero_le _, rfl, rfl, Drew.refl _⟩
      case round =>
        obtain ⟨j, hj, rfl, rfl, q, rfl⟩ := hrel
        by_cases hjl : j < ls.length
        · obtain ⟨Aj, cj, rj, -⟩ := Hrow.out wo HB.out j hjl
          obtain ⟨b, off, rfl, oj⟩ := Hord.out wo HB.out j hjl
          obtain ⟨b', off', e', ok⟩ := Hord.out wo HB.out k hlt
          injection e' with e'
          injection e' with e1 e2
          subst e1 e2
          have hle := belN_le ord ls k j
          have hlj := lenN_le ls (show j + 1 ≤ ls.length by omega)
          have elj : lenN ls (j + 1) = lenN ls j + (ls.getD j []).length := rfl
          have hbd : belN ord ls k j + (ls.getD j []).length ≤ 1000 := by have := HT.out; omega
          have Hs := Lib.hid (show belN ord ls k (j + 1) = belN ord ls k j + if ord.getD j 0 < ord.getD k 0 then (ls.getD j []).length else 0 from rfl)
          clear hle hlj elj
          generalize belN ord ls k j = bj at *
          generalize (ls.getD j []).length = lj at *
          generalize ord.getD j 0 = x at *
          generalize ord.getD k 0 = y at *
          by_cases hxy : x < y
          · have Hy := Lib.hid (show belN ord ls k (j + 1) = bj + lj by rw [Hs.out, if_pos hxy])
            go_wp2
            go_quiet (fail)
            go_wp2
            go_roundw
            case rel => exact ⟨j + 1, by omega, by go_num, by rw [Hy.out]; go_num, by exact ⟨_, rfl⟩⟩
            case measure => simp [intOf]; omega
          · have Hy := Lib.hid (show belN ord ls k (j + 1) = bj by rw [Hs.out, if_neg hxy, Nat.add_zero])
            go_wp2
            go_quiet (fail)
            go_wp2
            go_roundw
            case rel => exact ⟨j + 1, by omega, by go_num, by rw [Hy.out], by exact ⟨_, rfl⟩⟩
            case measure => simp [intOf]; omega
        · obtain rfl : j = ls.length := by omega
          have hownX : (wo.drewN q).ownsRow w.heap.size 3 1 _ (lenN ls k) (nums .i64 (infl ord ls k)) := Hown.out
          have hbelX := below_drewN HB.out q
          have HownX := Lib.hid hownX
          have HBX := Lib.hid hbelX
          clear hownX hbelX Hown rk HB hbel
          generalize wo.drewN q = X at *
          generalize belN ord ls k ls.length = bk at *
          generalize lenN ls k = L at *
          generalize infl ord ls k = pre at *
          go_wp2
          go_loopw [5, 43] (fun v i wr => ∃ m : Nat, m ≤ lk.length ∧ i = .int .i64 m ∧ wr.ownsRow w.heap.size 3 1 v (L + m) (nums .i64 (pre ++ (lk.map (fun x => bk + x)).take m)) ∧ Below w.heap.size w wr) (fun _ i _ => lk.length - (intOf i).toNat)
          case atStart => exact ⟨0, Nat.zero_le _, rfl, by simpa using HownX.out, HBX.out⟩
          case round =>
            obtain ⟨m, hm, rfl, hown2, hbel2⟩ := hrel
            by_cases hml : m < lk.length
            · obtain ⟨b, off, rfl, hs2, hc2⟩ := (HSk.out.below hbel2).at (by omega)
              have cm := hc2 m hml
              have hx1 := Hvk.out (lk.getD m 0) (by rw [List.getD_eq_getElem?_getD, List.getElem?_eq_getElem hml]; exact List.getElem_mem hml)
              have Hadd := Lib.hid (show nums .i64 (pre ++ (lk.map (fun x => bk + x)).take m) ++ [.int .i64 ((bk + lk.getD m 0 : Nat) : Int)] = nums .i64 (pre ++ (lk.map (fun x => bk + x)).take (m + 1)) by
                rw [nums_snoc, map_take_snoc bk lk m hml, List.append_assoc])
              have hb1000 := Hbnd.out
              have HB2 := Lib.hid hbel2
              have hsz : w.heap.size ≤ wr.heap.size := hbel2.size
              clear hc2 hbel2
              generalize lk.getD m 0 = x at *
              have hcast : (((bk + x : Nat) : Int)) = (bk : Int) + (x : Int) := by omega
              rw [hcast] at Hadd
              go_wp2_with (at_builtin; refine wpList_append_own _ rfl _ _ 22 rfl w.heap.size 3 i0 (.int .i64 0) 1 8 Try.underlying22 hi hz0 hz1 hz2 rfl (by decide) _ _ _ rfl (hown2.alloc _) ⟨wr.heap.size, 0, none⟩ 1 1 [.int .i64 ((bk : Int) + (x : Int))] rfl rfl ?c1 ?c2 ?c3 ?c4 ?c5 ?_)
              case c1 => exact cell_one_new _ _ _
              case c2 => exact one_cell _ rfl
              case c3 => unfold maxLen; omega
              case c4 => omega
              case c5 => simp; omega
              intro v' w1 hown' hgrow _
              have hb' := HB2.out.trans (own_below hown2 hsz hgrow)
              rw [Hadd.out] at hown'
              go_wp2
              go_roundw
              case rel => exact ⟨m + 1, by omega, by go_num, hown', hb'⟩
              case measure => simp [intOf]; omega
            · obtain rfl : m = lk.length := by omega
              rw [List.take_of_length_le (by rw [List.length_map]; exact Nat.le_refl _), ← Hnext.out, ← Hlen.out] at hown2
              go_wp2
              go_roundw
              case rel => exact ⟨k + 1, by omega, by go_num, hown2, hbel2⟩
              case measure => simp [intOf]; omega
    · obtain rfl : k = ls.length := by omega
      go_wp2
      go_ret
      exact ⟨_, rfl, by rw [infl_length]; exact hown, hbel⟩

end Go.Proofs.Ytgdaidmkcgblbaa

namespace Go.Proofs.Ytgdaidmkcgblbaa
open Go.RowKit

/-- The parts, one after the other. -/
def fillP (f : IT → Nat → Nat × Option (List Nat)) (kind : Int) : List IT → Nat → List (List Nat) → Nat × Option (List (List Nat))
  | [], c, acc => (c, some acc)
  | t :: ts, c, acc => match f t c with
    | (c1, none) => (c1, none)
    | (c1, some l) => if t.kind = kind ∧ kind ≠ 3 then (c1, none) else fillP f kind ts c1 (acc ++ [l])
/-- A tree of at most d levels. -/
def fillN : Nat → IT → Nat → Nat × Option (List Nat)
  | 0, _, c => (c, none)
  | d + 1, t, c => if 1000 < c + 1 then (c + 1, none) else if wellF t = false then (c + 1, none) else if t.kind = 0 then (c + 1, some [0]) else
    match fillP (fillN d) t.kind t.parts (c + 1) [] with
    | (c2, none) => (c2, none)
    | (c2, some ls) => (c2, some (infl (orderOf t) ls ls.length))

theorem fillP_nil (f : IT → Nat → Nat × Option (List Nat)) (kind : Int) (c : Nat) (acc : List (List Nat)) : fillP f kind [] c acc = (c, some acc) := rfl
theorem fillP_none {f : IT → Nat → Nat × Option (List Nat)} {kind : Int} {t : IT} {ts : List IT} {c c1 : Nat} {acc : List (List Nat)} (h : f t c = (c1, none)) : fillP f kind (t :: ts) c acc = (c1, none) := by
  unfold fillP; rw [h]
theorem fillP_same {f : IT → Nat → Nat × Option (List Nat)} {kind : Int} {t : IT} {ts : List IT} {c c1 : Nat} {l : List Nat} {acc : List (List Nat)} (h : f t c = (c1, some l)) (hk : t.kind = kind ∧ kind ≠ 3) : fillP f kind (t :: ts) c acc = (c1, none) := by
  unfold fillP; rw [h]; exact if_pos hk
theorem fillP_some {f : IT → Nat → Nat × Option (List Nat)} {kind : Int} {t : IT} {ts : List IT} {c c1 : Nat} {l : List Nat} {acc : List (List Nat)} (h : f t c = (c1, some l)) (hk : ¬ (t.kind = kind ∧ kind ≠ 3)) : fillP f kind (t :: ts) c acc = fillP f kind ts c1 (acc ++ [l]) := by
  conv => lhs; unfold fillP
  rw [h]; exact if_neg hk

theorem fillN_many {d : Nat} {t : IT} {c : Nat} (h : 1000 < c + 1) : fillN (d + 1) t c = (c + 1, none) := by
  unfold fillN; rw [if_pos h]
theorem fillN_bad {d : Nat} {t : IT} {c : Nat} (h : ¬ 1000 < c + 1) (hw : wellF t = false) : fillN (d + 1) t c = (c + 1, none) := by
  unfold fillN; rw [if_neg h, if_pos hw]
theorem fillN_leaf {d : Nat} {t : IT} {c : Nat} (h : ¬ 1000 < c + 1) (hw : wellF t = true) (hk : t.kind = 0) : fillN (d + 1) t c = (c + 1, some [0]) := by
  unfold fillN; rw [if_neg h, if_neg (by rw [hw]; simp), if_pos hk]
theorem fillN_parts_none {d : Nat} {t : IT} {c c2 : Nat} (h : ¬ 1000 < c + 1) (hw : wellF t = true) (hk : t.kind ≠ 0) (hp : fillP (fillN d) t.kind t.parts (c + 1) [] = (c2, none)) : fillN (d + 1) t c = (c2, none) := by
  unfold fillN; rw [if_neg h, if_neg (by rw [hw]; simp), if_neg hk, hp]
theorem fillN_parts_some {d : Nat} {t : IT} {c c2 : Nat} {ls : List (List Nat)} (h : ¬ 1000 < c + 1) (hw : wellF t = true) (hk : t.kind ≠ 0) (hp : fillP (fillN d) t.kind t.parts (c + 1) [] = (c2, some ls)) : fillN (d + 1) t c = (c2, some (infl (orderOf t) ls ls.length)) := by
  unfold fillN; rw [if_neg h, if_neg (by rw [hw]; simp), if_neg hk, hp]

/-- What is known of the blocks so far. -/
structure AccOk (c0 ck : Nat) (ls : List (List Nat)) : Prop where
  cnt : ck ≤ 1000
  len : lenN ls ls.length + c0 ≤ ck
  num : ls.length ≤ lenN ls ls.length
  all : ∀ i, i < ls.length → 1 ≤ (ls.getD i []).length ∧ ∀ x ∈ ls.getD i [], x < (ls.getD i []).length

theorem getD_left (ls us : List (List Nat)) (i : Nat) (h : i < ls.length) : (ls ++ us).getD i [] = ls.getD i [] := by
  rw [List.getD_eq_getElem?_getD, List.getD_eq_getElem?_getD, List.getElem?_append_left h]
theorem getD_last (ls : List (List Nat)) (l : List Nat) : (ls ++ [l]).getD ls.length [] = l := by
  rw [List.getD_eq_getElem?_getD, List.getElem?_append_right (Nat.le_refl _)]; simp
theorem lenN_append (ls us : List (List Nat)) : ∀ k, k ≤ ls.length → lenN (ls ++ us) k = lenN ls k
  | 0, _ => rfl
  | k + 1, h => by
    unfold lenN
    rw [lenN_append ls us k (by omega), getD_left ls us k (by omega)]
theorem lenN_snoc (ls : List (List Nat)) (l : List Nat) : lenN (ls ++ [l]) (ls ++ [l]).length = lenN ls ls.length + l.length := by
  rw [List.length_append, List.length_singleton]
  show lenN (ls ++ [l]) ls.length + ((ls ++ [l]).getD ls.length []).length = _
  rw [lenN_append ls [l] _ (Nat.le_refl _), getD_last]

/-- A list that a tree may stand for. -/
structure FillOk (c c' : Nat) (l : List Nat) : Prop where
  step : c + 1 ≤ c'
  cnt : c' ≤ 1000
  len : l.length + c ≤ c'
  pos : 1 ≤ l.length
  lt : ∀ x ∈ l, x < l.length

theorem AccOk.nil {c : Nat} (h : c ≤ 1000) : AccOk c c [] := ⟨h, by simp [lenN], Nat.zero_le _, fun i hi => absurd hi (by simp)⟩
theorem AccOk.snoc {c0 ck c1 : Nat} {ls : List (List Nat)} {l : List Nat} (h : AccOk c0 ck ls) (hl : FillOk ck c1 l) : AccOk c0 c1 (ls ++ [l]) := by
  refine ⟨hl.cnt, ?_, ?_, fun i hi => ?_⟩
  · rw [lenN_snoc]; have := h.len; have := hl.len; omega
  · rw [lenN_snoc, List.length_append, List.length_singleton]; have := h.num; have := hl.pos; omega
  · by_cases e : i < ls.length
    · rw [getD_left ls [l] i e]; exact h.all i e
    · have e' : i = ls.length := by rw [List.length_append, List.length_singleton] at hi; omega
      subst e'
      rw [getD_last]; exact ⟨hl.pos, hl.lt⟩
theorem AccOk.bound {c0 ck : Nat} {ls : List (List Nat)} (h : AccOk c0 ck ls) : lenN ls ls.length ≤ 1000 ∧ ls.length ≤ 1000 := by
  have := h.cnt; have := h.len; have := h.num; omega

theorem fillP_ok {f : IT → Nat → Nat × Option (List Nat)} {kind : Int} (hf : ∀ t c c' l, f t c = (c', some l) → FillOk c c' l) : ∀ (ts : List IT) (c0 c : Nat) (acc : List (List Nat)) (c' : Nat) (ls : List (List Nat)), AccOk c0 c acc → fillP f kind ts c acc = (c', some ls) → AccOk c0 c' ls ∧ ls.length = acc.length + ts.length
  | [], c0, c, acc, c', ls, h, e => by
    rw [fillP_nil] at e
    injection e with e1 e2
    injection e2 with e2
    subst e1 e2
    exact ⟨h, rfl⟩
  | t :: ts, c0, c, acc, c', ls, h, e => by
    rcases hft : f t c with ⟨c1, _ | l⟩
    · rw [fillP_none hft] at e; injection e with e1 e2; cases e2
    · by_cases hk : t.kind = kind ∧ kind ≠ 3
      · rw [fillP_same hft hk] at e; injection e with e1 e2; cases e2
      · rw [fillP_some hft hk] at e
        have ih := fillP_ok hf ts c0 c1 (acc ++ [l]) c' ls (h.snoc (hf t c c1 l hft)) e
        refine ⟨ih.1, ?_⟩
        rw [ih.2, List.length_append, List.length_singleton, List.length_cons]
        omega

theorem wellF_cases {t : IT} (h : wellF t = true) (h0 : t.kind ≠ 0) : (t.kind = 1 ∨ t.kind = 2 ∨ (t.kind = 3 ∧ ChkP t.perm ∧ t.perm.length = t.parts.length)) ∧ 2 ≤ t.parts.length := by
  by_cases h12 : t.kind = 1 ∨ t.kind = 2
  · rw [wellF_cut h12, Bool.and_eq_true, decide_eq_true_eq, decide_eq_true_eq] at h
    exact ⟨by omega, h.2⟩
  · by_cases h3 : t.kind = 3
    · rw [wellF_three h3, Bool.and_eq_true, decide_eq_true_eq] at h
      have hs := h.2
      unfold simpleI at hs
      rw [Bool.and_eq_true, Bool.and_eq_true, decide_eq_true_eq] at hs
      exact ⟨.inr (.inr ⟨h3, (chkB_iff _).1 hs.2.1, h.1⟩), by omega⟩
    · rw [wellF_no ⟨h0, by omega, by omega, h3⟩] at h
      cases h

theorem fillN_ok : ∀ (d : Nat) (t : IT) (c c' : Nat) (l : List Nat), fillN d t c = (c', some l) → FillOk c c' l
  | 0, t, c, c', l, e => by unfold fillN at e; injection e with _ e; cases e
  | d + 1, t, c, c', l, e => by
    by_cases h1 : 1000 < c + 1
    · rw [fillN_many h1] at e; injection e with _ e; cases e
    · by_cases hw : wellF t = false
      · rw [fillN_bad h1 hw] at e; injection e with _ e; cases e
      · have hw : wellF t = true := by cases h : wellF t <;> simp_all
        by_cases hk : t.kind = 0
        · rw [fillN_leaf h1 hw hk] at e
          injection e with e1 e2
          injection e2 with e2
          subst e1 e2
          exact ⟨Nat.le_refl _, by omega, by simp; omega, by simp, fun x hx => by simp_all⟩
        · rcases hp : fillP (fillN d) t.kind t.parts (c + 1) [] with ⟨c2, _ | ls⟩
          · rw [fillN_parts_none h1 hw hk hp] at e; injection e with _ e; cases e
          · rw [fillN_parts_some h1 hw hk hp] at e
            injection e with e1 e2
            injection e2 with e2
            subst e1 e2
            obtain ⟨ho, hl⟩ := fillP_ok (fillN_ok d) t.parts (c + 1) (c + 1) [] c2 ls (AccOk.nil (by omega)) hp
            have h2 := (wellF_cases hw hk).2
            have hlen := infl_length (orderOf t) ls ls.length
            have a := ho.len
            have b := ho.num
            have hll : ls.length = t.parts.length := by simpa using hl
            refine ⟨by omega, ho.cnt, by omega, by omega, fun x hx => ?_⟩
            rw [hlen]
            exact infl_lt (fun i hi => (ho.all i hi).2) (fun i hi => belN_self _ _ i _ hi) ls.length (Nat.le_refl _) x hx

end Go.Proofs.Ytgdaidmkcgblbaa
