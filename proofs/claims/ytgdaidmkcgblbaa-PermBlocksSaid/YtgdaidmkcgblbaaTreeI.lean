/-
  Trees of any integers, in memory, and the walks of simple and wellFormed.
  The walks of wellFormed and partOrder.
-/
import Derived.Test.YtgdaidmkcgblbaaChkI
import Derived.Test.YtgdaidmkcgblbaaDec
namespace Go.Proofs.Ytgdaidmkcgblbaa
open Go.RowKit

/-- A plain tree of any integers. -/
inductive IT where
  | node : Int → List Int → List IT → IT
def IT.kind : IT → Int
  | .node k _ _ => k
def IT.perm : IT → List Int
  | .node _ l _ => l
def IT.parts : IT → List IT
  | .node _ _ ts => ts

/-- A row of integers in the blocks from lo on, below hi. -/
def PermZ (w : World) (lo hi : Nat) (l : List Int) (v : Value) : Prop :=
  ∃ A c, v = .slice A l.length c ∧ (l.length ≤ c ∧ c ≤ 9223372036854775807 ∧ l.length ≤ 4611686018427387904) ∧ (∀ z ∈ l, -9223372036854775808 ≤ z ∧ z ≤ 9223372036854775807) ∧
    (0 < l.length → ∃ g off, A = some ⟨g, off, none⟩ ∧ lo ≤ g ∧ g < hi ∧ ∀ i, i < l.length → w.cell? ⟨g, off + i, none⟩ = some (.int .i64 (l.getD i 0)))
theorem PermZ.keep {w w' : World} {lo hi : Nat} {l : List Int} {v : Value} (h : PermZ w lo hi l v) (hk : ∀ g, lo ≤ g → g < hi → w'.heap[g]? = w.heap[g]?) : PermZ w' lo hi l v := by
  obtain ⟨A, c, e, hc, hb, h⟩ := h
  refine ⟨A, c, e, hc, hb, fun h0 => ?_⟩
  obtain ⟨g, off, e, h1, h2, h3⟩ := h h0
  exact ⟨g, off, e, h1, h2, fun i hi' => (World.cell?_of_block (w := w) (a := ⟨g, off + i, none⟩) (hk g h1 h2)).trans (h3 i hi')⟩
theorem PermZ.mono {w : World} {lo hi lo' hi' : Nat} {l : List Int} {v : Value} (h : PermZ w lo hi l v) (h1 : lo' ≤ lo) (h2 : hi ≤ hi') : PermZ w lo' hi' l v := by
  obtain ⟨A, c, e, hc, hb, h⟩ := h
  refine ⟨A, c, e, hc, hb, fun h0 => ?_⟩
  obtain ⟨g, off, e, q1, q2, h3⟩ := h h0
  exact ⟨g, off, e, Nat.le_trans h1 q1, Nat.lt_of_lt_of_le q2 h2, h3⟩
theorem PermZ.zl {w : World} {lo hi : Nat} {l : List Int} {A : Option Addr} {n c : Nat} (h : PermZ w lo hi l (.slice A n c)) (hh : hi ≤ w.heap.size) : n = l.length ∧ Zl w A n l ∧ n ≤ c ∧ c ≤ 9223372036854775807 := by
  obtain ⟨A', c', e, hc, hb, h⟩ := h
  injection e with e1 e2 e3
  subst e1 e2 e3
  refine ⟨rfl, ⟨rfl, by omega, hb, fun h0 => ?_⟩, hc.1, hc.2.1⟩
  obtain ⟨g, off, e, _, q2, h3⟩ := h h0
  exact ⟨g, off, e, by omega, h3⟩

/-- A tree in the blocks from lo on, below hi. -/
def ITIn (w : World) (lo hi : Nat) : Nat → IT → Value → Value → Prop
  | 0, _, _, _ => False
  | d + 1, t, pv, sv => PermZ w lo hi t.perm pv ∧ ∃ A c, sv = .slice A t.parts.length c ∧ (0 < t.parts.length → ∃ g off, A = some ⟨g, off, none⟩ ∧ lo ≤ g ∧ g < hi ∧
      ∀ i (h : i < t.parts.length), ∃ pv' sv', w.cell? ⟨g, off + i * 3, none⟩ = some (.int .i64 (t.parts[i]).kind) ∧ w.cell? ⟨g, off + i * 3 + 1, none⟩ = some pv' ∧ w.cell? ⟨g, off + i * 3 + 2, none⟩ = some sv' ∧ ITIn w lo hi d t.parts[i] pv' sv')

theorem ITIn.keep {w w' : World} {lo hi : Nat} (hk : ∀ g, lo ≤ g → g < hi → w'.heap[g]? = w.heap[g]?) : ∀ (d : Nat) (t : IT) (pv sv : Value), ITIn w lo hi d t pv sv → ITIn w' lo hi d t pv sv
  | 0, _, _, _, h => h.elim
  | d + 1, t, pv, sv, h => by
    obtain ⟨h1, A, c, e, h2⟩ := h
    refine ⟨h1.keep hk, A, c, e, fun h0 => ?_⟩
    obtain ⟨g, off, e, q1, q2, h3⟩ := h2 h0
    refine ⟨g, off, e, q1, q2, fun i hi' => ?_⟩
    obtain ⟨pv', sv', k1, k2, k3, k4⟩ := h3 i hi'
    have hb := hk g q1 q2
    exact ⟨pv', sv', (World.cell?_of_block (w := w) (a := ⟨g, off + i * 3, none⟩) hb).trans k1, (World.cell?_of_block (w := w) (a := ⟨g, off + i * 3 + 1, none⟩) hb).trans k2, (World.cell?_of_block (w := w) (a := ⟨g, off + i * 3 + 2, none⟩) hb).trans k3, ITIn.keep hk d _ _ _ k4⟩
theorem ITIn.mono {w : World} {lo hi lo' hi' : Nat} (h1 : lo' ≤ lo) (h2 : hi ≤ hi') : ∀ (d : Nat) (t : IT) (pv sv : Value), ITIn w lo hi d t pv sv → ITIn w lo' hi' d t pv sv
  | 0, _, _, _, h => h.elim
  | d + 1, t, pv, sv, h => by
    obtain ⟨q1, A, c, e, q2⟩ := h
    refine ⟨q1.mono h1 h2, A, c, e, fun h0 => ?_⟩
    obtain ⟨g, off, e, k1, k2, h3⟩ := q2 h0
    refine ⟨g, off, e, Nat.le_trans h1 k1, Nat.lt_of_lt_of_le k2 h2, fun i hi'' => ?_⟩
    obtain ⟨pv', sv', m1, m2, m3, m4⟩ := h3 i hi''
    exact ⟨pv', sv', m1, m2, m3, ITIn.mono h1 h2 d _ _ _ m4⟩
theorem ITIn.fuel {w : World} {lo hi : Nat} : ∀ (d e : Nat) (t : IT) (pv sv : Value), d ≤ e → ITIn w lo hi d t pv sv → ITIn w lo hi e t pv sv
  | 0, _, _, _, _, _, h => h.elim
  | d + 1, 0, _, _, _, hde, _ => absurd hde (by omega)
  | d + 1, e + 1, t, pv, sv, hde, h => by
    obtain ⟨q1, A, c, e', q2⟩ := h
    refine ⟨q1, A, c, e', fun h0 => ?_⟩
    obtain ⟨g, off, e'', k1, k2, h3⟩ := q2 h0
    refine ⟨g, off, e'', k1, k2, fun i hi' => ?_⟩
    obtain ⟨pv', sv', m1, m2, m3, m4⟩ := h3 i hi'
    exact ⟨pv', sv', m1, m2, m3, ITIn.fuel d e _ _ _ (by omega) m4⟩
theorem ITIn.slices {w : World} {lo hi : Nat} : ∀ {d : Nat} {t : IT} {pv sv : Value}, ITIn w lo hi d t pv sv → ∃ pa pn pc A n c, pv = .slice pa pn pc ∧ sv = .slice A n c
  | 0, _, _, _, h => h.elim
  | _ + 1, _, _, _, ⟨⟨pa, pc, e1, _⟩, A, c, e2, _⟩ => ⟨pa, _, pc, A, _, c, e1, e2⟩

/-- Whether a list is a permutation. -/
def chkB (l : List Int) : Bool := decide (1 ≤ l.length) && decide (l.length ≤ 60) && (List.range l.length).all fun j => decide (0 ≤ l.getD j 0) && decide (l.getD j 0 < l.length) && (List.range j).all fun i => !decide (l.getD i 0 = l.getD j 0)
theorem chkB_iff (l : List Int) : chkB l = true ↔ ChkP l := by
  unfold chkB ChkP OkTo
  simp only [Bool.and_eq_true, decide_eq_true_eq, List.all_eq_true, List.mem_range, Bool.not_eq_true', decide_eq_false_iff_not, and_assoc, ne_eq]

/-- Whether a list is a simple permutation, as the program finds it. -/
def simpleI (l : List Int) : Bool := decide (4 ≤ l.length) && (chkB l && (decide ((divL (natsOf l)).1 = 3) && decide ((divL (natsOf l)).2.length = l.length)))

theorem nats_le {l : List Int} (h : ChkP l) : ∀ i, (natsOf l).getD i 0 ≤ 1000 := by
  intro i
  by_cases hi : i < l.length
  · rw [natsOf_get l i hi]
    have := (h.2.2 i hi).2.1
    have := h.2.1
    omega
  · rw [List.getD_eq_getElem?_getD, List.getElem?_eq_none (by rw [natsOf_length]; omega)]; exact Nat.zero_le _

set_option maxRecDepth 100000 in
theorem simpleI_any (A : Option Addr) (n cap : Nat) (l : List Int) (w : World) (hZ : Zl w A n l) (hcap : n ≤ cap) (hc9 : cap ≤ 9223372036854775807) :
    Calls Try.prog 114 #[.slice A n cap] w fun e w' => e = .returned (.bool (simpleI l)) ∧ Below w.heap.size w w' := by
  have hl := hZ.1
  subst hl
  by_cases h1 : l.length < 4
  · have d1 : decide ((l.length : Int) < 4) = true := decide_eq_true (by omega)
    have Hs := Lib.hid (show simpleI l = false by unfold simpleI; rw [decide_eq_false (by omega)]; rfl)
    clear h1
    go_enter Try.func114, Try.ntmps114
    go_wp2
    go_ret
    exact ⟨by rw [Hs.out]; rfl, Below.refl _ _⟩
  · have d1 : decide ((l.length : Int) < 4) = false := decide_eq_false (by omega)
    have Hchk := Lib.hid (check_any A l.length cap l w hZ)
    have HZ := Lib.hid hZ
    have H1 := Lib.hid h1
    clear hZ h1
    go_enter Try.func114, Try.ntmps114
    go_wp2_with fail
    refine Hchk.out.mono ?_
    rintro e w1 ⟨hch, hb1⟩
    rcases hch with ⟨hc, rfl⟩ | ⟨hc, rfl⟩
    · have hb := (chkB_iff l).2 hc
      obtain ⟨b, off, rfl, -, -⟩ := HZ.out.2.2.2 (by have := H1.out; omega)
      have Hdiv := Lib.hid (divide_any b off l.length cap (natsOf l) w1 (chk_sl (HZ.out.below hb1) hc) (by have := H1.out; omega) hcap (by have := hc.2.1; omega) (Nat.le_trans hc9 (by omega)) (nats_le hc))
      have Hs := Lib.hid (show simpleI l = (decide ((divL (natsOf l)).1 = 3) && decide ((divL (natsOf l)).2.length = l.length)) by
        unfold simpleI; rw [hb, decide_eq_true (by have := H1.out; omega)]; rfl)
      generalize (divL (natsOf l)).1 = kind at *
      generalize (divL (natsOf l)).2 = rows at *
      clear hb hc
      by_cases k3 : kind = 3
      · have d3 : ((kind : Int) == 3) = true := by rw [beq_iff_eq]; omega
        rw [decide_eq_true k3] at Hs
        by_cases hr : rows.length = l.length
        · have d4 : ((rows.length : Int) == (l.length : Int)) = true := by rw [beq_iff_eq]; omega
          rw [decide_eq_true hr] at Hs
          clear k3 hr
          go_wp2_with (go_at_call 100; refine Hdiv.out.mono ?_; rintro e w2 ⟨gR, cR, rfl, -, hb2⟩)
          go_ret
          exact ⟨by rw [Hs.out]; rfl, hb1.trans (hb2.mono hb1.size)⟩
        · have d4 : ((rows.length : Int) == (l.length : Int)) = false := by rw [beq_eq_false_iff_ne]; omega
          rw [decide_eq_false hr] at Hs
          clear k3 hr
          go_wp2_with (go_at_call 100; refine Hdiv.out.mono ?_; rintro e w2 ⟨gR, cR, rfl, -, hb2⟩)
          go_ret
          exact ⟨by rw [Hs.out]; rfl, hb1.trans (hb2.mono hb1.size)⟩
      · have d3 : ((kind : Int) == 3) = false := by rw [beq_eq_false_iff_ne]; omega
        rw [decide_eq_false k3] at Hs
        clear k3
        go_wp2_with (go_at_call 100; refine Hdiv.out.mono ?_; rintro e w2 ⟨gR, cR, rfl, -, hb2⟩)
        go_ret
        exact ⟨by rw [Hs.out]; rfl, hb1.trans (hb2.mono hb1.size)⟩
    · have hb : chkB l = false := by
        cases e : chkB l with
        | false => rfl
        | true => exact (hc ((chkB_iff l).1 e)).elim
      have Hs := Lib.hid (show simpleI l = false by unfold simpleI; rw [hb]; cases decide (4 ≤ l.length) <;> rfl)
      clear hb
      go_wp2_with fail
      go_ret
      exact ⟨by rw [Hs.out]; rfl, hb1⟩

/-- Whether a node alone is right. -/
def wellF (t : IT) : Bool :=
  if t.kind = 0 then decide (t.perm.length = 0) && decide (t.parts.length = 0)
  else if t.kind = 1 ∨ t.kind = 2 then decide (t.perm.length = 0) && decide (2 ≤ t.parts.length)
  else if t.kind = 3 then decide (t.perm.length = t.parts.length) && simpleI t.perm
  else false

end Go.Proofs.Ytgdaidmkcgblbaa

namespace Go.Proofs.Ytgdaidmkcgblbaa
open Go.RowKit

theorem wellF_zero {t : IT} (h : t.kind = 0) : wellF t = (decide (t.perm.length = 0) && decide (t.parts.length = 0)) := if_pos h
theorem wellF_cut {t : IT} (h : t.kind = 1 ∨ t.kind = 2) : wellF t = (decide (t.perm.length = 0) && decide (2 ≤ t.parts.length)) := by
  unfold wellF; rw [if_neg (by omega), if_pos h]
theorem wellF_three {t : IT} (h : t.kind = 3) : wellF t = (decide (t.perm.length = t.parts.length) && simpleI t.perm) := by
  unfold wellF; rw [if_neg (by omega), if_neg (by omega), if_pos h]
theorem wellF_no {t : IT} (h : t.kind ≠ 0 ∧ t.kind ≠ 1 ∧ t.kind ≠ 2 ∧ t.kind ≠ 3) : wellF t = false := by
  unfold wellF; rw [if_neg (by omega), if_neg (by omega), if_neg (by omega)]

set_option maxRecDepth 100000 in
set_option maxHeartbeats 1000000 in
theorem wellFormed_any (d : Nat) (t : IT) (pa : Option Addr) (pn pc : Nat) (A : Option Addr) (n c lo hi : Nat) (w : World) (h : ITIn w lo hi (d + 1) t (.slice pa pn pc) (.slice A n c)) (hhi : hi ≤ w.heap.size) :
    Calls Try.prog 106 #[.agg #[.int .i64 t.kind, .slice pa pn pc, .slice A n c]] w fun e w' => e = .returned (.bool (wellF t)) ∧ Below w.heap.size w w' := by
  obtain ⟨hp, A', c', e1, -⟩ := h
  injection e1 with e1 e2 e3
  subst e1 e2 e3
  have hbel0 := below_new' w (.cells #[.int .i64 t.kind, .slice pa pn pc, .slice A t.parts.length c] 43)
  obtain ⟨hpn, hpz, hpc, hpc9⟩ := hp.zl hhi
  have Hsimp := Lib.hid (simpleI_any pa pn pc t.perm _ (hpz.below hbel0) hpc hpc9)
  subst hpn
  have hbox := Blk.new w 43 #[.int .i64 t.kind, .slice pa t.perm.length pc, .slice A t.parts.length c]
  obtain ⟨b0, b1, b2, -, -, -⟩ := blk_three hbox
  have hp62 := hpz.2.1
  clear hp hpz hbox
  have W0 := Lib.hid (wellF_zero (t := t))
  have W1 := Lib.hid (wellF_cut (t := t))
  have W3 := Lib.hid (wellF_three (t := t))
  have Wn := Lib.hid (wellF_no (t := t))
  generalize wellF t = res at *
  generalize simpleI t.perm = sb at *
  generalize t.kind = k at *
  generalize t.perm.length = pl at *
  generalize t.parts.length = ql at *
  by_cases k0 : k = 0
  · have r := W0.out k0
    have R := Lib.hid r
    clear r W0 W1 W3 Wn
    have d0 : (k == 0) = true := by rw [beq_iff_eq]; exact k0
    have Hk := Lib.hid k0
    clear k0
    by_cases hpl : pl = 0
    · have d1 : ((pl : Int) == 0) = true := by rw [beq_iff_eq]; omega
      have R1 := Lib.hid (decide_eq_true hpl)
      clear hpl
      by_cases hql : ql = 0
      · have d2 : ((ql : Int) == 0) = true := by rw [beq_iff_eq]; omega
        have R2 := Lib.hid (decide_eq_true hql)
        clear hql
        go_enter Try.func106, Try.ntmps106
        go_wp2
        go_ret
        exact ⟨by rw [R.out, R1.out, R2.out]; rfl, hbel0⟩
      · have d2 : ((ql : Int) == 0) = false := by rw [beq_eq_false_iff_ne]; omega
        have R2 := Lib.hid (decide_eq_false hql)
        clear hql
        go_enter Try.func106, Try.ntmps106
        go_wp2
        go_ret
        exact ⟨by rw [R.out, R1.out, R2.out]; rfl, hbel0⟩
    · have d1 : ((pl : Int) == 0) = false := by rw [beq_eq_false_iff_ne]; omega
      have R1 := Lib.hid (decide_eq_false hpl)
      clear hpl
      go_enter Try.func106, Try.ntmps106
      go_wp2
      go_ret
      exact ⟨by rw [R.out, R1.out]; rfl, hbel0⟩
  · have d0 : (k == 0) = false := by rw [beq_eq_false_iff_ne]; exact k0
    by_cases k12 : k = 1 ∨ k = 2
    · have r := W1.out k12
      have R := Lib.hid r
      clear r W0 W1 W3 Wn
      have hk12 : ((k == 1) = true) ∨ ((k == 1) = false ∧ (k == 2) = true) := by
        rcases k12 with h | h
        · exact .inl (by rw [beq_iff_eq]; exact h)
        · exact .inr ⟨by rw [beq_eq_false_iff_ne]; omega, by rw [beq_iff_eq]; exact h⟩
      clear k12 k0
      by_cases hpl : pl = 0
      · have d1 : ((pl : Int) == 0) = true := by rw [beq_iff_eq]; omega
        have R1 := Lib.hid (decide_eq_true hpl)
        clear hpl
        by_cases hql : 2 ≤ ql
        · have d2 : decide ((2 : Int) ≤ (ql : Int)) = true := decide_eq_true (by omega)
          have R2 := Lib.hid (decide_eq_true hql)
          clear hql
          rcases hk12 with h1 | ⟨h1, h2⟩
          all_goals
            go_enter Try.func106, Try.ntmps106
            go_wp2
            go_ret
            exact ⟨by rw [R.out, R1.out, R2.out]; rfl, hbel0⟩
        · have d2 : decide ((2 : Int) ≤ (ql : Int)) = false := decide_eq_false (by omega)
          have R2 := Lib.hid (decide_eq_false hql)
          clear hql
          rcases hk12 with h1 | ⟨h1, h2⟩
          all_goals
            go_enter Try.func106, Try.ntmps106
            go_wp2
            go_ret
            exact ⟨by rw [R.out, R1.out, R2.out]; rfl, hbel0⟩
      · have d1 : ((pl : Int) == 0) = false := by rw [beq_eq_false_iff_ne]; omega
        have R1 := Lib.hid (decide_eq_false hpl)
        clear hpl
        rcases hk12 with h1 | ⟨h1, h2⟩
        all_goals
          go_enter Try.func106, Try.ntmps106
          go_wp2
          go_ret
          exact ⟨by rw [R.out, R1.out]; rfl, hbel0⟩
    · have d1 : (k == 1) = false := by rw [beq_eq_false_iff_ne]; omega
      have d2 : (k == 2) = false := by rw [beq_eq_false_iff_ne]; omega
      by_cases k3 : k = 3
      · have r := W3.out k3
        have R := Lib.hid r
        have d3 : (k == 3) = true := by rw [beq_iff_eq]; exact k3
        clear r W0 W1 W3 Wn k0 k12 k3
        by_cases hpq : pl = ql
        · have d4 : ((pl : Int) == (ql : Int)) = true := by rw [beq_iff_eq]; omega
          have R1 := Lib.hid (decide_eq_true hpq)
          clear hpq
          go_enter Try.func106, Try.ntmps106
          go_wp2_with (go_at_call 114; refine Hsimp.out.mono ?_; rintro e w2 ⟨rfl, hb2⟩)
          go_ret
          exact ⟨by rw [R.out, R1.out]; rfl, hbel0.trans (hb2.mono hbel0.size)⟩
        · have d4 : ((pl : Int) == (ql : Int)) = false := by rw [beq_eq_false_iff_ne]; omega
          have R1 := Lib.hid (decide_eq_false hpq)
          clear hpq
          go_enter Try.func106, Try.ntmps106
          go_wp2
          go_ret
          exact ⟨by rw [R.out, R1.out]; rfl, hbel0⟩
      · have r := Wn.out ⟨k0, by omega, by omega, k3⟩
        have R := Lib.hid r
        have d3 : (k == 3) = false := by rw [beq_eq_false_iff_ne]; exact k3
        clear r W0 W1 W3 Wn k0 k12 k3
        go_enter Try.func106, Try.ntmps106
        go_wp2
        go_ret
        exact ⟨by rw [R.out]; rfl, hbel0⟩

/-- A row of one's own is turned round. -/
theorem reverse_any (g n cap : Nat) (xs : List Nat) (w : World) (hb : Blk w g 3 (cellsOf .i64 xs)) (hn : xs.length = n) (hn9 : n ≤ 4611686018427387904) :
    Calls Try.prog 97 #[.slice (some ⟨g, 0, none⟩) n cap] w fun e w' => e = .returned (.tuple #[]) ∧ Blk w' g 3 (cellsOf .i64 xs.reverse) ∧ Only g w w' := by
  have hc := Try.slices_Reverse_int_cells g 0 n cap (xs.map fun (y : Nat) => (y : Int)) w (by simp [hn]) (by omega)
    (fun j hj => by
      rw [List.length_map] at hj
      rw [Nat.zero_add, hb.num j hj]
      simp [List.getD_eq_getElem?_getD, hj])
    (fun j _ => by rw [Nat.zero_add]; exact hb.free j)
  refine hc.mono ?_
  rintro e w' ⟨he, q, hw⟩
  have hs := setCells_blk (k := .i64) xs.reverse 0 (w.drewN q) xs hb (by simp)
  have ev : (((xs.map fun (y : Nat) => (y : Int)).take n).reverse).map (Value.int .i64) = xs.reverse.map fun (y : Nat) => Value.int .i64 (y : Nat) := by
    rw [List.take_of_length_le (by simp [hn])]
    simp
  rw [ev] at hw
  rw [← hw] at hs
  refine ⟨he, ?_, ?_⟩
  · have e2 : xs.take 0 ++ xs.reverse ++ xs.drop (0 + xs.reverse.length) = xs.reverse := by simp
    rw [e2] at hs
    exact hs
  · rw [hw]
    exact ((Only.refl g w).drewN q).trans (setCells_only _ _ _)

/-- The order of the parts' values. -/
def orderOf (t : IT) : List Nat := if t.kind = 3 then natsOf t.perm else if t.kind = 2 then (List.range t.parts.length).reverse else List.range t.parts.length

/-- What partOrder returns. -/
def RetOrd (n : Nat) (l : List Nat) (w : World) (e : Ending) (w' : World) : Prop := ∃ A c, e = .returned (.slice A n c) ∧ Sl .i64 w' A n l ∧ Below w.heap.size w w'

set_option maxRecDepth 100000 in
set_option maxHeartbeats 1000000 in
theorem partOrder_any (d : Nat) (t : IT) (pa : Option Addr) (pn pc : Nat) (A : Option Addr) (n c lo hi : Nat) (w : World) (h : ITIn w lo hi (d + 1) t (.slice pa pn pc) (.slice A n c)) (hhi : hi ≤ w.heap.size)
    (hw : t.kind = 1 ∨ t.kind = 2 ∨ (t.kind = 3 ∧ ChkP t.perm ∧ t.perm.length = t.parts.length)) (hn : n ≤ 100000) :
    Calls Try.prog 108 #[.agg #[.int .i64 t.kind, .slice pa pn pc, .slice A n c]] w (RetOrd n (orderOf t) w) := by
  obtain ⟨hp, A', c', e1, -⟩ := h
  injection e1 with e1 e2 e3
  subst e1 e2 e3
  have hbel0 := below_new' w (.cells #[.int .i64 t.kind, .slice pa pn pc, .slice A t.parts.length c] 43)
  obtain ⟨hpn, hpz, hpc, hpc9⟩ := hp.zl hhi
  subst hpn
  have hbox := Blk.new w 43 #[.int .i64 t.kind, .slice pa t.perm.length pc, .slice A t.parts.length c]
  obtain ⟨b0, b1, b2, -, -, -⟩ := blk_three hbox
  have hz := hpz.below hbel0
  by_cases k3 : t.kind = 3
  · have hch : ChkP t.perm ∧ t.perm.length = t.parts.length := by
      rcases hw with h | h | h
      · omega
      · omega
      · exact h.2
    have Ho := Lib.hid (show orderOf t = natsOf t.perm from if_pos k3)
    have d3 : (t.kind == 3) = true := by rw [beq_iff_eq]; exact k3
    have Hsl := Lib.hid (chk_sl hz hch.1)
    have Hl := Lib.hid hch.2
    have Hc := Lib.hid (fun (W : World) (h : Sl .i64 W pa t.perm.length (natsOf t.perm)) => (hch.2 ▸ h : Sl .i64 W pa t.parts.length (natsOf t.perm)))
    unfold RetOrd
    rw [Ho.out]
    clear hch hz hpz hp hw hbox k3
    generalize t.kind = k at *
    go_enter Try.func108, Try.ntmps108
    go_wp2
    go_ret
    exact ⟨pa, pc, congrArg (fun (z : Nat) => Ending.returned (.slice pa z pc)) Hl.out, Hc.out _ Hsl.out, hbel0⟩
  · have d3 : (t.kind == 3) = false := by rw [beq_eq_false_iff_ne]; exact k3
    have hrise' : ∀ W, Calls Try.prog 103 #[.int .i64 (t.parts.length : Nat)] W (RetRow (List.range t.parts.length) W) := fun W => rising_any t.parts.length W hn
    unfold RetRow at hrise'
    simp only [List.length_range] at hrise'
    have Hr := Lib.hid hrise'
    clear hrise' hz hpz hp
    by_cases k2 : t.kind = 2
    · have d2 : (t.kind == 2) = true := by rw [beq_iff_eq]; exact k2
      have Ho := Lib.hid (show orderOf t = (List.range t.parts.length).reverse by unfold orderOf; rw [if_neg k3, if_pos k2])
      unfold RetOrd
      rw [Ho.out]
      clear k2 k3 hw
      generalize t.kind = k at *
      generalize t.parts.length = m at *
      go_enter Try.func108, Try.ntmps108
      go_wp2_with (first
        | (go_at_call 103; refine (Hr.out _).mono ?_; rintro e w1 ⟨g, rfl, hg, hblk, hb1⟩; have hbox1 := (hb1.block _ hbox.lt).trans hbox; obtain ⟨q0, q1, q2, -, -, -⟩ := blk_three hbox1; have Hrev := Lib.hid (reverse_any g m m (List.range m) w1 hblk List.length_range (by omega)))
        | (go_at_call 97; refine Hrev.out.mono ?_; rintro e w2 ⟨rfl, hblk2, honly⟩))
      have hb2 := hbel0.trans (hb1.mono hbel0.size)
      have hb3 := hb2.trans (honly.below (Nat.le_trans hbel0.size hg))
      have hS2 := Sl.of_blk hblk2 (show (List.range m).reverse.length = m by simp) (by omega)
      clear hblk hblk2 honly
      go_wp2
      go_ret
      exact ⟨_, m, rfl, hS2, hb3⟩
    · have d2 : (t.kind == 2) = false := by rw [beq_eq_false_iff_ne]; exact k2
      have Ho := Lib.hid (show orderOf t = List.range t.parts.length by unfold orderOf; rw [if_neg k3, if_neg k2])
      unfold RetOrd
      rw [Ho.out]
      clear k2 k3 hw
      generalize t.kind = k at *
      generalize t.parts.length = m at *
      go_enter Try.func108, Try.ntmps108
      go_wp2_with (first
        | (go_at_call 103; refine (Hr.out _).mono ?_; rintro e w1 ⟨g, rfl, hg, hblk, hb1⟩; have hbox1 := (hb1.block _ hbox.lt).trans hbox; obtain ⟨q0, q1, q2, -, -, -⟩ := blk_three hbox1))
      have hb2 := hbel0.trans (hb1.mono hbel0.size)
      go_ret
      exact ⟨_, m, rfl, Sl.of_blk hblk List.length_range (by omega), hb2⟩

end Go.Proofs.Ytgdaidmkcgblbaa
