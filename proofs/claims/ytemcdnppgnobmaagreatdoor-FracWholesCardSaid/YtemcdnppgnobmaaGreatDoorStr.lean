/-
  The walks of frac's Rat: lower, lowest, Sign, Of, kept.
  The walks of frac's String of integers and fractions.
-/
import Derived.Test.YtemcdnppgnobmaaGreatDoorInt4
import Derived.Test.YtemcdnppgnobmaaGreatDoorWri
import Derived.Laws.BytesString
import Derived.Laws.BytesArg
import Derived.Maps.AppendAt
import Derived.Deep.DeepCutAuto
set_option linter.unusedVariables false
namespace Go.Proofs.YtemcdnppgnobmaaGreatDoor
open Go.RowKit

/-- A denominator's digits: 1 is left out. -/
def denN (d : Nat) : Nat := if d = 1 then 0 else d

/-- The value of the fraction r. -/
def ratV (r : Rat) (A : Option Addr) (n : Nat) (B : Option Addr) (m : Nat) : Value := .agg #[.bool (decide (r.num < 0)), .slice A n n, .slice B m m]
def ratC (r : Rat) (A : Option Addr) (n : Nat) (B : Option Addr) (m : Nat) : Array Value := #[.bool (decide (r.num < 0)), .slice A n n, .slice B m m]
def ratZ : Array Value := #[.bool false, .slice none 0 0, .slice none 0 0]

/-- The digits of both parts of a fraction. -/
structure Rg (w : World) (A : Option Addr) (n : Nat) (B : Option Addr) (m : Nat) (r : Rat) : Prop where
  num : Dg w A n r.num.natAbs
  den : Dg w B m (denN r.den)

theorem Rg.below {w w' : World} {A B : Option Addr} {n m : Nat} {r : Rat} (h : Rg w A n B m r) (hb : Below w.heap.size w w') : Rg w' A n B m r := ⟨h.num.below hb, h.den.below hb⟩

/-- A fraction's value; nothing that was there has turned. -/
def RetRat (r : Rat) (w : World) (e : Ending) (w' : World) : Prop :=
  ∃ A n B m, e = .returned (ratV r A n B m) ∧ Rg w' A n B m r ∧ Below w.heap.size w w'

theorem ratZ_free : ∀ (i : Nat) (z : Int), ratZ[i]? ≠ some (Value.int .u32 z) := by
  intro i z
  unfold ratZ
  match i with
  | 0 => simp
  | 1 => simp
  | 2 => simp
  | i + 3 => simp

theorem Blk.three {w : World} {g : Nat} {t : TypeId} {a b c : Value} (h : Blk w g t #[a, b, c]) :
    w.cell? ⟨g, 0, none⟩ = some a ∧ w.cell? ⟨g, 1, none⟩ = some b ∧ w.cell? ⟨g, 2, none⟩ = some c ∧ w.frozen? ⟨g, 0, none⟩ = false ∧ w.frozen? ⟨g, 1, none⟩ = false ∧ w.frozen? ⟨g, 2, none⟩ = false :=
  ⟨h.cell 0, h.cell 1, h.cell 2, h.free 0, h.free 1, h.free 2⟩
theorem Blk.set3 {w : World} {g : Nat} {t : TypeId} {a b c : Value} (h : Blk w g t #[a, b, c]) (a' b' c' : Value) :
    Blk (((w.setCell ⟨g, 0, none⟩ a').setCell ⟨g, 1, none⟩ b').setCell ⟨g, 2, none⟩ c') g t #[a', b', c'] := by
  have := ((h.store 0 a').store 1 b').store 2 c'
  simpa using this

/-- A function whose only result is a fraction in a cell returns it. -/
theorem ret_ratCell {fn : Func} {R : Ending → World → Prop} {a : Act} {w : World} {s g : Nat} {b : Bool} {A B : Option Addr} {n m : Nat}
    (hf : fn.results = #[.cell s 68]) (h4 : a.tmps[s]? = some (.pointer (some ⟨g, 0, none⟩))) (hb : Blk w g 68 #[.bool b, .slice A n n, .slice B m m])
    (hd : a.defers = []) (hR : R (.returned (.agg #[.bool b, .slice A n n, .slice B m m])) w) : bodyPost Tryz.prog fn R .ret a w := by
  have c0 := hb.cell 0
  have c1 := hb.cell 1
  have c2 := hb.cell 2
  exact bodyPost_ret (v := .agg #[.bool b, .slice A n n, .slice B m m]) (by simp [results, hf, go_sem, c0, c1, c2, h4]) hd hR

/-- A fraction is stored into the cell of the result, which is then returned. -/
theorem ret_rat_stored {fn : Func} {R : Ending → World → Prop} {a : Act} {w w1 : World} {s g n m : Nat} {A B : Option Addr} {r : Rat} {b : Bool}
    (hf : fn.results = #[.cell s 68]) (h4 : a.tmps[s]? = some (.pointer (some ⟨g, 0, none⟩))) (hd : a.defers = [])
    (hb : Blk w1 g 68 ratZ) (hdg : Rg w1 A n B m r) (hbel : Below w.heap.size w w1) (hg : w.heap.size ≤ g) (hz : b = decide (r.num < 0))
    (hR : ∀ w', Rg w' A n B m r → Below w.heap.size w w' → R (.returned (ratV r A n B m)) w') :
    bodyPost Tryz.prog fn R .ret a (((w1.setCell ⟨g, 0, none⟩ (.bool b)).setCell ⟨g, 1, none⟩ (.slice A n n)).setCell ⟨g, 2, none⟩ (.slice B m m)) := by
  have ho := (((Only.refl g w1).setCell 0 (.bool b)).setCell 1 (.slice A n n)).setCell 2 (.slice B m m)
  refine ret_ratCell hf h4 (Blk.set3 hb _ _ _) hd ?_
  subst hz
  exact hR _ ⟨hdg.num.only ho hb ratZ_free, hdg.den.only ho hb ratZ_free⟩ (hbel.trans (ho.below hg))

theorem ratSign_any (A B : Option Addr) (n m : Nat) (r : Rat) (w : World) (h : Rg w A n B m r) :
    Calls Tryz.prog 54 #[ratV r A n B m] w (fun e w' => e = .returned (.int .i64 r.num.sign) ∧ Below w.heap.size w w') := by
  have hb := Blk.new w 68 (ratC r A n B m)
  have hbel := below_new w (.cells (ratC r A n B m) 68)
  have hs := sign_any A n r.num _ (h.num.below hbel)
  obtain ⟨c0, c1, c2, f0, f1, f2⟩ := hb.three
  have Hs := Lib.hid hs
  have Hbel := Lib.hid hbel
  clear hs hbel hb h
  unfold ratV
  unfold intV at Hs
  go_enter Tryz.func54, Tryz.ntmps54
  go_wp2_with fail
  refine Hs.out.mono ?_
  rintro e w1 ⟨rfl, hb1⟩
  go_wp2_with fail
  go_ret
  exact ⟨rfl, Hbel.out.and hb1⟩

theorem lowest_any (A B : Option Addr) (n m d : Nat) (z : Int) (r : Rat) (w : World) (h : Dg w A n z.natAbs) (k : Dg w B m d) (hz : r.num = z) (hd : r.den = d) :
    Calls Tryz.prog 95 #[intV z A n, .slice B m m] w (RetRat r w) := by
  subst hz hd
  have hb := Blk.new w 25 #[.bool (decide (r.num < 0)), .slice A n n]
  have hbel := (below_new w (.cells #[.bool (decide (r.num < 0)), .slice A n n] 25)).more (.cells ratZ 68)
  have hb0 := hb.keep (below_new _ (.cells ratZ 68))
  have hres := Blk.new (w.alloc (.cells #[.bool (decide (r.num < 0)), .slice A n n] 25)) 68 ratZ
  rw [size_new] at hres
  obtain ⟨c0, c1, f0, f1⟩ := hb0.two
  have hi := isOne_dg B m m r.den _ (k.below hbel)
  have hx := h.below hbel
  have hy := k.below hbel
  have Hi := Lib.hid hi
  have Hx := Lib.hid hx
  have Hy := Lib.hid hy
  have Hbel := Lib.hid hbel
  clear hi hx hy hbel hb h k
  unfold intV
  by_cases hd : r.den = 1
  · rw [decide_eq_true hd] at Hi
    have hden : denN r.den = 0 := by unfold denN; rw [if_pos hd]
    have Hden := Lib.hid hden
    clear hd hden
    go_enter Tryz.func95, Tryz.ntmps95
    go_wp2_with fail
    refine Hi.out.mono ?_
    rintro e w1 ⟨rfl, hw1⟩
    clear Hi c0 c1 f0 f1
    rw [← hw1] at hres Hbel Hx Hy hb0
    obtain ⟨d0, d1, d2, e0, e1, e2⟩ := hres.three
    obtain ⟨c0, c1, f0, f1⟩ := hb0.two
    clear hw1
    go_wp2_with fail
    refine ret_rat_stored (r := r) (A := A) (n := n) (B := none) (m := 0) rfl rfl rfl hres ⟨Hx.out, by rw [Hden.out]; exact Sl.nil⟩ Hbel.out (by omega) rfl ?_
    exact fun w' h1 h2 => ⟨A, n, none, 0, rfl, h1, h2⟩
  · rw [decide_eq_false hd] at Hi
    have hden : denN r.den = r.den := by unfold denN; rw [if_neg hd]
    have Hden := Lib.hid hden
    clear hd hden
    go_enter Tryz.func95, Tryz.ntmps95
    go_wp2_with fail
    refine Hi.out.mono ?_
    rintro e w1 ⟨rfl, hw1⟩
    clear Hi c0 c1 f0 f1
    rw [← hw1] at hres Hbel Hx Hy hb0
    obtain ⟨d0, d1, d2, e0, e1, e2⟩ := hres.three
    obtain ⟨c0, c1, f0, f1⟩ := hb0.two
    clear hw1
    go_wp2_with fail
    refine ret_rat_stored (r := r) (A := A) (n := n) (B := B) (m := m) rfl rfl rfl hres ⟨Hx.out, by rw [Hden.out]; exact Hy.out⟩ Hbel.out (by omega) rfl ?_
    exact fun w' h1 h2 => ⟨A, n, B, m, rfl, h1, h2⟩
end Go.Proofs.YtemcdnppgnobmaaGreatDoor

namespace Go.Proofs.YtemcdnppgnobmaaGreatDoor
open Go.RowKit

/-- Letters as a string. -/
def strL (l : List Nat) : ByteArray := strOfNums (l.map fun (x : Nat) => (x : Int))
theorem strL_size (l : List Nat) : (strL l).size = l.length := by unfold strL; rw [strOfNums_size, List.length_map]

/-- A row of letters as a string. -/
theorem own_string {B n : Nat} {l : List Nat} {w : World} {v : Value} {t : TypeId} (ht : Tryz.prog.underlying t = some (.slice 5)) (hown : w.ownsRow B 5 1 v n (nums .u8 l)) : (convert t 9 v).run Tryz.prog w = .ok (.string (strL l)) w := by
  have hn : l.length = n := own_len hown
  rcases Nat.eq_zero_or_pos n with h0 | h0
  · subst h0
    have hl : l = [] := List.eq_nil_of_length_eq_zero hn
    subst hl
    rcases hown.2 with ⟨rfl, _⟩ | ⟨g, cap, cur, rfl, _⟩
    · exact run_convert_bytes_nil w t 5 ht Tryz.underlying5 0 0 9 Tryz.underlying9
    · exact run_convert_bytes_arg w t 5 ht Tryz.underlying5 g 0 0 cap [] rfl (fun i hi => absurd hi (by omega)) 9 Tryz.underlying9
  · obtain ⟨g, cap, rfl⟩ := own_pos hown h0
    exact run_convert_bytes_arg w t 5 ht Tryz.underlying5 g 0 n cap (l.map fun (x : Nat) => (x : Int)) (by rw [List.length_map, hn]) (fun j hj => by
      rw [Nat.zero_add, own_num hown j hj]
      simp [List.getD_eq_getElem?_getD, show j < l.length by omega]) 9 Tryz.underlying9

theorem size_new' (w : World) (o : Obj) : (w.alloc o).heap.size = w.heap.size + 1 := by simp
theorem one_cell (a : Value) (ha : a.oneCell' = true) : ∀ u ∈ [a], u.oneCell' = true := by
  intro u hu
  rw [List.mem_singleton.1 hu]; exact ha

/-- What write leaves: a row of letters of one's own. -/
def RetText (w0 : World) (l : List Nat) (e : Ending) (w' : World) : Prop :=
  ∃ v, e = .returned v ∧ w'.ownsRow w0.heap.size 5 1 v l.length (nums .u8 l) ∧ Below w0.heap.size w0 w'

theorem decZ_neg {z : Int} (h : z < 0) : decZ z = [45] ++ decL z.natAbs := by unfold decZ; rw [if_pos h]
theorem decZ_pos {z : Int} (h : ¬ z < 0) : decZ z = decL z.natAbs := by unfold decZ; rw [if_neg h]; rfl

set_option maxRecDepth 100000 in
set_option maxHeartbeats 1000000 in
theorem intWrite_any (z : Int) (A : Option Addr) (n : Nat) (w0 w : World) (hbel : Below w0.heap.size w0 w) (h : Dg w0 A n z.natAbs) (hn : n ≤ 1000000) :
    Calls Tryz.prog 62 #[intV z A n, .slice none 0 0] w (RetText w0 (decZ z)) := by
  obtain ⟨i0, hi, hz0, hz1, hz2⟩ := info_parts info_u8
  have hb := Blk.new w 25 #[.bool (decide (z < 0)), .slice A n n]
  obtain ⟨c0, c1, f0, f1⟩ := hb.int
  have hb1 := hbel.alloc hbel.size (.cells #[.bool (decide (z < 0)), .slice A n n] 25)
  have Hb1 := Lib.hid hb1
  clear hb1
  unfold intV
  obtain ⟨b, hbz⟩ : ∃ b, decide (z < 0) = b := ⟨_, rfl⟩
  rw [hbz] at c0 c1 f0 f1 hb Hb1 ⊢
  have Hb := Lib.hid hb
  have hown := World.ownsRow_nil (w.alloc (.cells #[.bool b, .slice A n n] 25)) w0.heap.size 5 1
  have Hwr := Lib.hid (fun v l S W h1 h2 hS => write_any v l S n n z.natAbs A w0 W h1 h2 h hn hS)
  clear hb hbel h
  obtain ⟨W, hW⟩ : ∃ W, W = w.alloc (.cells #[.bool b, .slice A n n] 25) := ⟨_, rfl⟩
  rw [← hW] at hown c0 c1 f0 f1 Hb1 Hb
  have HW := Lib.hid hW
  clear hW
  cases b
  · have Hz := Lib.hid (decZ_pos (of_decide_eq_false hbz))
    clear hbz
    go_enter Tryz.func62, Tryz.ntmps62
    go_upto_region 1 with fail
    rw [← HW.out]
    go_wp2_with (go_at_call 82; refine (Hwr.out _ [] 0 _ hown Hb1.out (by omega)).mono ?_; rintro e w3 ⟨g, cap, rfl, hw3, hb3⟩)
    go_ret
    rw [Hz.out]
    refine ⟨_, rfl, ?_, hb3⟩
    rw [decL_length]
    simpa using hw3
  · have Hz := Lib.hid (decZ_neg (of_decide_eq_true hbz))
    clear hbz
    have hsz : w0.heap.size ≤ (W.alloc (.cells #[.int .u8 45] 5)).heap.size := by rw [World.size_alloc]; have := Hb1.out.size; omega
    go_enter Tryz.func62, Tryz.ntmps62
    go_upto_region 1 with fail
    rw [← HW.out]
    go_upto_region 3 with (at_builtin; refine wpList_append_lies _ rfl _ _ 84 rfl w0.heap.size 5 i0 (.int .u8 0) 1 1 Tryz.underlying84 hi hz0 hz1 hz2 rfl (by decide) _ 0 (nums .u8 []) rfl (hown.alloc _) ⟨W.heap.size, 0, none⟩ 1 1 [.int .u8 45] rfl rfl ?c1 ?c2 ?c3 ?c4 ?c5 ?c6 (W.heap.size + 1) (size_new' _ _) ?_)
    case c1 => exact cell_one_new _ _ _
    case c2 => exact one_cell _ rfl
    case c3 => exact Nat.one_pos
    case c4 => unfold maxLen; omega
    case c5 => omega
    case c6 => exact hsz
    intro gr cr w2 hown2 hgrow2 hat2 hlt2
    have hb2 := Hb1.out.trans (own_below hown Hb1.out.size hgrow2)
    have hk1 := hgrow2.cell (a := ⟨w.heap.size, 1, none⟩) (v := .slice A n n) ((Hb.out.keep (below_new _ _)).cell 1) (by simp [Value.ownBlock])
    go_wp2_with (go_at_call 82; refine (Hwr.out _ [45] 1 _ hown2 hb2 (by omega)).mono ?_; rintro e w3 ⟨g, cap, rfl, hw3, hb3⟩)
    go_ret
    rw [Hz.out]
    refine ⟨_, rfl, ?_, hb3⟩
    rw [List.length_append, decL_length]
    simpa using hw3

set_option maxRecDepth 100000 in
theorem intString_any (z : Int) (A : Option Addr) (n : Nat) (w : World) (h : Dg w A n z.natAbs) (hn : n ≤ 1000000) :
    Calls Tryz.prog 33 #[intV z A n] w (fun e w' => e = .returned (.string (strL (decZ z))) ∧ Below w.heap.size w w') := by
  have hb := Blk.new w 25 #[.bool (decide (z < 0)), .slice A n n]
  obtain ⟨c0, c1, f0, f1⟩ := hb.int
  have hbel := below_new w (.cells #[.bool (decide (z < 0)), .slice A n n] 25)
  have hw := intWrite_any z A n w _ hbel h hn
  have Hw := Lib.hid hw
  clear hw h hbel
  unfold intV at Hw ⊢
  generalize decide (z < 0) = b at *
  go_enter Tryz.func33, Tryz.ntmps33
  go_upto_region 1 with fail
  generalize w.alloc (.cells #[.bool b, .slice A n n] 25) = W at *
  clear hb
  go_wp2_with fail
  refine Hw.out.mono ?_
  rintro e w1 ⟨v, rfl, hown, hb1⟩
  have hconv := own_string Tryz.underlying84 hown
  go_wp2_with fail
  go_ret
  exact ⟨rfl, hb1⟩

/-- The letters of a fraction. -/
def decQ (r : Rat) : List Nat := decZ r.num ++ if r.den = 1 then [] else [47] ++ decL r.den

set_option maxRecDepth 100000 in
set_option maxHeartbeats 1000000 in
theorem ratString_any (r : Rat) (A B : Option Addr) (n m : Nat) (w : World) (h : Rg w A n B m r) (hn : n ≤ 100000) (hm : m ≤ 1000000) :
    Calls Tryz.prog 53 #[ratV r A n B m] w (fun e w' => e = .returned (.string (strL (decQ r))) ∧ Below w.heap.size w w') := by
  obtain ⟨i0, hi, hz0, hz1, hz2⟩ := info_parts info_u8
  have hb := Blk.new w 68 (ratC r A n B m)
  obtain ⟨c0, c1, c2, f0, f1, f2⟩ := hb.three
  have hbel := below_new w (.cells (ratC r A n B m) 68)
  have hrW := h.below hbel
  obtain ⟨W, hW⟩ : ∃ W, W = w.alloc (.cells (ratC r A n B m) 68) := ⟨_, rfl⟩
  rw [← hW] at c0 c1 c2 f0 f1 f2 hb hbel hrW
  have hw := intWrite_any r.num A n W W (Below.refl _ _) hrW.num (by omega)
  have hwr := fun v l S w' h1 h2 hS => write_any v l S m m (denN r.den) B W w' h1 h2 hrW.den hm hS
  have hlm := h.den.len
  have hln : (decZ r.num).length ≤ 999999 := by
    have h1 := dn_le r.num.natAbs
    rw [h.num.len] at h1
    unfold decZ
    rw [List.length_append, decL_length]
    split <;> simp <;> omega
  have Hw := Lib.hid hw
  have Hwr := Lib.hid hwr
  have Hb := Lib.hid hb
  have Hbel := Lib.hid hbel
  have HW := Lib.hid hW
  have hqm : (n = n) := rfl
  have hq : decQ r = decZ r.num ++ if m = 0 then [] else [47] ++ decL (denN r.den) := by
    unfold decQ
    congr 1
    by_cases h1 : r.den = 1
    · have : m = 0 := by rw [← hlm, h1]; rfl
      rw [if_pos h1, if_pos this]
    · have hd : denN r.den = r.den := by unfold denN; rw [if_neg h1]
      have : m ≠ 0 := by
        rintro rfl
        rw [hd] at hlm
        have := limbs_eq_zero hlm
        exact r.den_nz this
      rw [if_neg h1, if_neg this, hd]
  have Hq := Lib.hid hq
  clear hq hlm hw hwr h hbel hb hW hrW hqm
  unfold ratV
  unfold ratC at Hb HW
  unfold intV at Hw
  generalize decide (r.num < 0) = b at *
  generalize decZ r.num = lz at *
  generalize denN r.den = dd at *
  generalize hqq : decQ r = qq at *
  clear hqq
  have hl9 : lz.length < 9223372036854775807 := by omega
  by_cases hm0 : m = 0
  · subst hm0
    rw [if_pos rfl, List.append_nil] at Hq
    go_enter Tryz.func53, Tryz.ntmps53
    go_upto_region 1 with fail
    rw [← HW.out]
    go_upto_region 2 with (go_at_call 62; refine Hw.out.mono ?_; rintro e w1 ⟨v, rfl, hown, hb1⟩)
    have hk := Hb.out.keep hb1
    clear c0 c1 c2 f0 f1 f2
    obtain ⟨c0, c1, c2, f0, f1, f2⟩ := hk.three
    have hconv := own_string Tryz.underlying84 hown
    rw [← Hq.out] at hconv
    go_wp2_with fail
    go_ret
    exact ⟨rfl, Hbel.out.and hb1⟩
  · rw [if_neg hm0] at Hq
    have hm1 : (0 : Int) < (m : Int) := by omega
    go_enter Tryz.func53, Tryz.ntmps53
    go_upto_region 1 with fail
    rw [← HW.out]
    go_upto_region 2 with (go_at_call 62; refine Hw.out.mono ?_; rintro e w1 ⟨v, rfl, hown, hb1⟩)
    have hk := Hb.out.keep hb1
    clear c0 c1 c2 f0 f1 f2
    obtain ⟨c0, c1, c2, f0, f1, f2⟩ := hk.three
    have hsz : W.heap.size ≤ (w1.alloc (.cells #[.int .u8 47] 5)).heap.size := by rw [World.size_alloc]; have := hb1.size; omega
    go_upto_region 4 with (at_builtin; refine wpList_append_lies _ rfl _ _ 84 rfl W.heap.size 5 i0 (.int .u8 0) 1 1 Tryz.underlying84 hi hz0 hz1 hz2 rfl (by decide) _ lz.length (nums .u8 lz) rfl (hown.alloc _) ⟨w1.heap.size, 0, none⟩ 1 1 [.int .u8 47] rfl rfl ?c1 ?c2 ?c3 ?c4 ?c5 ?c6 (w1.heap.size + 1) (size_new' _ _) ?_)
    case c1 => exact cell_one_new _ _ _
    case c2 => exact one_cell _ rfl
    case c3 => exact Nat.one_pos
    case c4 => unfold maxLen; omega
    case c5 => omega
    case c6 => exact hsz
    intro gr cr w2 hown2 hgrow2 hat2 hlt2
    have hb2 := hb1.trans (own_below hown hb1.size hgrow2)
    have hk2 := Hb.out.keep hb2
    clear c0 c1 c2 f0 f1 f2
    obtain ⟨c0, c1, c2, f0, f1, f2⟩ := hk2.three
    replace hown2 : w2.ownsRow W.heap.size 5 1 (.slice (some ⟨gr, 0, none⟩) (lz.length + 1) cr) (lz.length + 1) (nums .u8 (lz ++ [47])) := by rw [← nums_snoc]; exact hown2
    go_upto_region 5 with (go_at_call 82; refine (Hwr.out _ (lz ++ [47]) (lz.length + 1) _ hown2 hb2 (by omega)).mono ?_; rintro e w3 ⟨g, cap, rfl, hw3, hb3⟩)
    have hconv := own_string Tryz.underlying84 hw3
    rw [List.append_assoc, ← Hq.out] at hconv
    go_wp2_with fail
    go_ret
    exact ⟨rfl, Hbel.out.and hb3⟩
end Go.Proofs.YtemcdnppgnobmaaGreatDoor
