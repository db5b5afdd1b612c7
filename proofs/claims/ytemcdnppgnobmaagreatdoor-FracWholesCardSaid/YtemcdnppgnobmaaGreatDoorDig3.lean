/-
  The walks of frac's isOne, compare and cut.
  The walks of frac's natural, narrow, bound and decimals.
  The walks of frac's bound and decimals.
-/
import Derived.Test.YtemcdnppgnobmaaGreatDoorBase
import Derived.Test.YtemcdnppgnobmaaGreatDoorNat
set_option linter.unusedVariables false
namespace Go.Proofs.YtemcdnppgnobmaaGreatDoor
open Go.RowKit

def isOneL (l : List Nat) : Bool := l.length == 1 && l.getD 0 0 == 1

theorem isOne_any (A : Option Addr) (n cap : Nat) (l : List Nat) (w : World) (h : Sl .u32 w A n l) :
    Calls Tryz.prog 63 #[.slice A n cap] w fun e w' => e = .returned (.bool (isOneL l)) ∧ w' = w := by
  have hl := h.len
  by_cases h1 : n = 1
  · subst h1
    obtain ⟨b, off, rfl, hb, hc⟩ := h.at (by omega)
    obtain ⟨x, rfl⟩ : ∃ x, l = [x] := by
      match l, hl with
      | [x], _ => exact ⟨x, rfl⟩
    have hc : w.cell? ⟨b, off, none⟩ = some (.int .u32 x) := hc 0 (by omega)
    clear h hl
    go_enter Tryz.func63, Tryz.ntmps63
    go_wp2
    go_ret
    exact ⟨ret_bool (by rw [Bool.eq_iff_iff]; simp [isOneL]; omega), rfl⟩
  · have hb : ((n : Int) == 1) = false := by rw [beq_eq_false_iff_ne]; omega
    have HL := Lib.hid hl
    clear hl
    go_enter Tryz.func63, Tryz.ntmps63
    go_wp2
    go_ret
    exact ⟨by simp [isOneL, HL.out, h1], rfl⟩

/-- The first difference, from the top. -/
def cmpAt (a b : List Nat) : Nat → Int
  | 0 => 0
  | j + 1 => if a.getD j 0 < b.getD j 0 then -1 else if b.getD j 0 < a.getD j 0 then 1 else cmpAt a b j

def cmpL (a b : List Nat) : Int := if a.length < b.length then -1 else if b.length < a.length then 1 else cmpAt a b a.length

theorem compare_same (A B : Option Addr) (n c d : Nat) (l m : List Nat) (w : World) (h : Sl .u32 w A n l) (k : Sl .u32 w B n m) :
    Calls Tryz.prog 40 #[.slice A n c, .slice B n d] w fun e w' => e = .returned (.int .i64 (cmpL l m)) ∧ Drew w w' := by
  have HC : Hid (cmpL l m = cmpAt l m n) := by
    show cmpL l m = _
    unfold cmpL; rw [h.len, k.len, if_neg (by omega), if_neg (by omega)]
  have hmax := h.max
  go_enter Tryz.func40, Tryz.ntmps40
  go_wp2
  go_loopw [5] (fun i wr => Drew w wr ∧ ((i = .int .i64 (-1) ∧ cmpAt l m n = 0) ∨ ∃ j : Nat, j < n ∧ i = .int .i64 j ∧ cmpAt l m (j + 1) = cmpAt l m n)) (fun i _ => (intOf i + 1).toNat)
  case atStart =>
    refine ⟨⟨0, rfl⟩, ?_⟩
    match n with
    | 0 => exact Or.inl ⟨rfl, rfl⟩
    | n + 1 => exact Or.inr ⟨n, by omega, by go_num, rfl⟩
  case round =>
    obtain ⟨⟨q, rfl⟩, ⟨rfl, hz⟩ | ⟨j, hj, rfl, hz⟩⟩ := hrel
    · have Hz := Lib.hid hz
      clear hz
      go_wp2
      go_ret
      exact ⟨ret_int (by rw [HC.out, Hz.out]), q, rfl⟩
    · obtain ⟨b, off, rfl, -, ha⟩ := h.at (by omega)
      obtain ⟨b', off', rfl, -, hb⟩ := k.at (by omega)
      have hca := ha j hj
      have hcb := hb j hj
      have Hz := Lib.hid hz
      clear hz h k
      generalize hx : l.getD j 0 = x at *
      generalize hy : m.getD j 0 = y at *
      have Hx := Lib.hid hx
      have Hy := Lib.hid hy
      clear hx hy ha hb
      rcases Nat.lt_trichotomy x y with hlt | heq | hgt
      · go_wp2
        go_quiet (fail)
        go_wp2
        go_ret
        refine ⟨ret_int ?_, (by repeat (first | exact Drew.refl _ | refine Drew.drewN ?_ _))⟩
        rw [HC.out, ← Hz.out]; unfold cmpAt; rw [Hx.out, Hy.out, if_pos hlt]
      · subst heq
        go_wp2
        go_quiet (fail)
        go_wp2
        go_quiet (fail)
        go_wp2
        go_roundw
        case rel =>
          have hz' : cmpAt l m j = cmpAt l m n := by rw [← Hz.out]; conv => rhs; unfold cmpAt
                                                     rw [Hx.out, Hy.out, if_neg (by omega), if_neg (by omega)]
          refine ⟨(by exact ⟨_, rfl⟩), ?_⟩
          match j with
          | 0 => exact Or.inl ⟨rfl, hz'.symm⟩
          | j + 1 => exact Or.inr ⟨j, by omega, by go_num, hz'⟩
        case measure => simp [intOf]
      · go_wp2
        go_quiet (fail)
        go_wp2
        go_quiet (fail)
        go_wp2
        go_ret
        refine ⟨ret_int ?_, (by repeat (first | exact Drew.refl _ | refine Drew.drewN ?_ _))⟩
        rw [HC.out, ← Hz.out]; unfold cmpAt; rw [Hx.out, Hy.out, if_neg (by omega), if_pos hgt]

theorem compare_any (A B : Option Addr) (n n' c d : Nat) (l m : List Nat) (w : World) (h : Sl .u32 w A n l) (k : Sl .u32 w B n' m) :
    Calls Tryz.prog 40 #[.slice A n c, .slice B n' d] w fun e w' => e = .returned (.int .i64 (cmpL l m)) ∧ Drew w w' := by
  by_cases hl : n = n'
  · subst hl
    exact compare_same A B n c d l m w h k
  · have hb : ((n : Int) != n') = true := by rw [bne_iff_ne]; omega
    have h1 := h.len
    have h2 := k.len
    by_cases hlt : n < n'
    · have HC : Hid (cmpL l m = -1) := if_pos (by omega)
      clear h1 h2 hl
      go_enter Tryz.func40, Tryz.ntmps40
      go_wp2
      go_ret
      exact ⟨ret_int HC.out.symm, 0, rfl⟩
    · have HC : Hid (cmpL l m = 1) := by show cmpL l m = 1; unfold cmpL; rw [if_neg (by omega), if_pos (by omega)]
      have hgt : n' < n := by omega
      clear h1 h2 hl
      go_enter Tryz.func40, Tryz.ntmps40
      go_wp2
      go_ret
      exact ⟨ret_int HC.out.symm, 0, rfl⟩

/-- A number as a digits value: cut to its own capacity, none of its digits 0 at the top. -/
def Dg (w : World) (A : Option Addr) (n : Nat) (x : Nat) : Prop := Sl .u32 w A n (toL x)

/-- Like RetDg, and where the row lies: nowhere, or where A does. -/
def RetCut (x : Nat) (A : Option Addr) (w : World) (e : Ending) (w' : World) : Prop := ∃ A' n, e = .returned (.slice A' n n) ∧ Dg w' A' n x ∧ Drew w w' ∧ (A' = none ∧ n = 0 ∨ A' = A ∧ 0 < n)

/-- A digits value that is nil, or at the head of a block that is known whole, from block B on. -/
def Own (B : Nat) (w : World) (A : Option Addr) (n x : Nat) : Prop :=
  (A = none ∧ n = 0 ∧ x = 0) ∨ ∃ g xs, A = some ⟨g, 0, none⟩ ∧ B ≤ g ∧ Blk w g 66 (cellsOf .u32 xs) ∧ xs.take n = toL x ∧ n ≤ xs.length ∧ 0 < n
theorem Own.none (B : Nat) (w : World) : Own B w none 0 0 := Or.inl ⟨rfl, rfl, rfl⟩
theorem Own.mono {B B' : Nat} {w : World} {A : Option Addr} {n x : Nat} (h : Own B w A n x) (hb : B' ≤ B) : Own B' w A n x := by
  rcases h with h | ⟨g, xs, h1, h2, h3⟩
  · exact Or.inl h
  · exact Or.inr ⟨g, xs, h1, Nat.le_trans hb h2, h3⟩
theorem Own.below {B : Nat} {w w' : World} {A : Option Addr} {n x : Nat} (h : Own B w A n x) (hb : Below w.heap.size w w') : Own B w' A n x := by
  rcases h with h | ⟨g, xs, h1, h2, h3, h4⟩
  · exact Or.inl h
  · exact Or.inr ⟨g, xs, h1, h2, h3.below hb h3.lt, h4⟩

/-- A digits value, in new memory. -/
def RetDg (x : Nat) (w : World) (e : Ending) (w' : World) : Prop := ∃ A n, e = .returned (.slice A n n) ∧ Dg w' A n x ∧ Below w.heap.size w w' ∧ Own w.heap.size w' A n x
/-- A digits value, in block g or behind it. -/
def RetAt (x g : Nat) (w : World) (e : Ending) (w' : World) : Prop := ∃ A n, e = .returned (.slice A n n) ∧ Dg w' A n x ∧ Below w.heap.size w w' ∧ Own g w' A n x

theorem trim_snoc_zero (l : List Nat) : trimL (l ++ [0]) = trimL l := by
  induction l with
  | nil => rfl
  | cons x t ih => show trimL (x :: (t ++ [0])) = _; unfold trimL; rw [ih]
theorem trim_snoc_pos (l : List Nat) (x : Nat) (h : x ≠ 0) : trimL (l ++ [x]) = l ++ [x] := by
  induction l with
  | nil => simp [trimL, h]
  | cons y t ih =>
    show trimL (y :: (t ++ [x])) = _
    unfold trimL
    rw [ih]
    cases t <;> rfl
theorem take_trim {l : List Nat} (h : Low l) : l.take (limbs (ofL l)) = trimL l := by
  unfold limbs
  rw [← trim_eq_toL h]
  clear h
  induction l with
  | nil => rfl
  | cons x t ih =>
    unfold trimL
    split
    · next e => rw [e] at ih; split <;> simp_all
    · next y u e => rw [e] at ih; simp only [List.length_cons, List.take_succ_cons] at ih ⊢; rw [ih]
theorem take_snoc (l : List Nat) (k : Nat) (h : k < l.length) : l.take (k + 1) = l.take k ++ [l.getD k 0] := by
  rw [List.take_succ_eq_append_getElem h, List.getD_eq_getElem?_getD, List.getElem?_eq_getElem h]; rfl

theorem cut_at (A : Option Addr) (n cap : Nat) (l : List Nat) (w : World) (h : Sl .u32 w A n l) (hlow : Low l) (hcap : n ≤ cap) :
    Calls Tryz.prog 72 #[.slice A n cap] w (RetCut (ofL l) A w) := by
  have hmax := h.max
  have hlen := Lib.hid h.len
  go_enter Tryz.func72, Tryz.ntmps72
  go_wp2
  go_loopw [3] (fun i wr => Drew w wr ∧ ∃ j : Nat, j ≤ n ∧ i = .int .i64 j ∧ trimL (l.take j) = trimL l) (fun i _ => (intOf i).toNat)
  case atStart => exact ⟨⟨0, rfl⟩, n, Nat.le_refl _, rfl, by rw [← hlen.out, List.take_length]⟩
  case round =>
    obtain ⟨⟨q, rfl⟩, j, hj, rfl, hz⟩ := hrel
    have Hz := Lib.hid hz
    clear hz
    by_cases h0 : j = 0
    · subst h0
      go_wp2
      go_ret
      have hx : ofL l = 0 := by rw [← ofL_trim, ← Hz.out]; rfl
      rw [hx]
      exact ⟨none, 0, rfl, Sl.nil, ⟨q, rfl⟩, Or.inl ⟨rfl, rfl⟩⟩
    · obtain ⟨k, rfl⟩ : ∃ k, j = k + 1 := ⟨j - 1, by omega⟩
      obtain ⟨b, off, rfl, hbs, ha⟩ := h.at (by omega)
      have hca := ha k (by omega)
      have Hs := Lib.hid (take_snoc l k (by rw [hlen.out]; omega))
      go_wp2
      · have h0 : ((l[k]?.getD 0 : Nat) == (0 : Int)) = true := by assumption
        go_roundw
        case rel =>
          refine ⟨(by exact ⟨_, rfl⟩), k, by omega, rfl, ?_⟩
          have h00 : l[k]?.getD 0 = 0 := by rw [beq_iff_eq] at h0; omega
          rw [← Hz.out, Hs.out, List.getD_eq_getElem?_getD, h00, trim_snoc_zero]
        case measure => simp [intOf]
      · have h0 : ((l[k]?.getD 0 : Nat) == (0 : Int)) = false := by assumption
        go_ret
        have h00 : l[k]?.getD 0 ≠ 0 := by rw [beq_eq_false_iff_ne] at h0; omega
        have ht : l.take (k + 1) = toL (ofL l) := by
          rw [← trim_eq_toL hlow, ← Hz.out, Hs.out, List.getD_eq_getElem?_getD, trim_snoc_pos _ _ h00]
        refine ⟨_, _, rfl, ?_, ⟨q, rfl⟩, Or.inr ⟨rfl, by omega⟩⟩
        unfold Dg
        rw [← ht]
        exact (h.take (by omega)).drewN q

theorem cut_any (g n cap : Nat) (l : List Nat) (w : World) (h : Bl .u32 w g 66 n l) (hlow : Low l) (hcap : n ≤ cap) :
    Calls Tryz.prog 72 #[.slice (some ⟨g, 0, none⟩) n cap] w (RetAt (ofL l) g w) :=
  (cut_at (some ⟨g, 0, none⟩) n cap l w h.sl hlow hcap).mono fun _ _ ⟨A', m, he, hd, hb, hA⟩ => ⟨A', m, he, hd, hb.below, by
    rcases hA with ⟨rfl, rfl⟩ | ⟨rfl, hm⟩
    · exact Or.inl ⟨rfl, rfl, limbs_eq_zero (Sl.len hd)⟩
    · obtain ⟨q, rfl⟩ := hb
      have hlm : limbs (ofL l) = m := Sl.len hd
      have hml : m ≤ l.length := by
        have := length_trim_le l
        rw [trim_eq_toL hlow] at this
        have : limbs (ofL l) ≤ l.length := this
        omega
      refine Or.inr ⟨g, l, rfl, Nat.le_refl _, h.1.drewN q, ?_, hml, hm⟩
      rw [← hlm, ← trim_eq_toL hlow]
      exact take_trim hlow⟩

end Go.Proofs.YtemcdnppgnobmaaGreatDoor

namespace Go.Proofs.YtemcdnppgnobmaaGreatDoor
open Go.RowKit

theorem ofL3 (x : Nat) : ofL [x % 1000000000, x / 1000000000 % 1000000000, x / 1000000000 / 1000000000] = x := by
  simp only [ofL, bas]; omega

theorem natural_any (x : Nat) (w : World) (hx : x / 1000000000 / 1000000000 ≤ 18) :
    Calls Tryz.prog 69 #[.int .u64 x] w (RetDg x w) := by
  have hcs : (#[Value.int .u32 (x % 1000000000), Value.int .u32 (x / 1000000000 % 1000000000), Value.int .u32 (x / 1000000000 / 1000000000)] : Array Value)
      = cellsOf .u32 [x % 1000000000, x / 1000000000 % 1000000000, x / 1000000000 / 1000000000] := by simp [cellsOf]
  have hlow : Low [x % 1000000000, x / 1000000000 % 1000000000, x / 1000000000 / 1000000000] := by
    intro y hy
    simp only [List.mem_cons, List.not_mem_nil, or_false] at hy
    show y < 1000000000
    omega
  have hblk := Blk.new w 66 #[Value.int .u32 (x % 1000000000), Value.int .u32 (x / 1000000000 % 1000000000), Value.int .u32 (x / 1000000000 / 1000000000)]
  rw [hcs] at hblk
  have Hb := Lib.hid hblk
  have Hc := Lib.hid hcs
  clear hblk hcs
  go_enter Tryz.func69, Tryz.ntmps69
  go_wp2_with fail
  rw [Hc.out]
  refine (cut_any w.heap.size 3 3 _ _ (Bl.of_blk Hb.out rfl (by omega)) hlow (by omega)).mono ?_
  rintro e w1 ⟨A, n, rfl, hd, hb, hf⟩
  rw [ofL3] at hd hf
  go_wp2
  go_ret
  exact ⟨A, n, rfl, hd, ((Below.refl _ _).alloc (Nat.le_refl _) _).trans (hb.mono (by simp)), hf⟩

theorem natural_int (z : Int) (x : Nat) (w : World) (hz : z = (x : Nat)) (hx : x / 1000000000 / 1000000000 ≤ 18) :
    Calls Tryz.prog 69 #[.int .u64 z] w (RetDg x w) := by
  subst hz; exact natural_any x w hx

theorem limbs_le_three {x : Nat} (hx : x / 1000000000 / 1000000000 ≤ 9) : limbs x ≤ 3 := by
  apply limbs_le_of_lt
  simp only [bas]
  omega

theorem Dg.len {w : World} {A : Option Addr} {n x : Nat} (h : Dg w A n x) : limbs x = n := Sl.len h
theorem Dg.below {w w' : World} {A : Option Addr} {n x : Nat} (h : Dg w A n x) (hb : Below w.heap.size w w') : Dg w' A n x := Sl.below h hb

theorem narrow_0 (A : Option Addr) (cap : Nat) (w : World) :
    Calls Tryz.prog 68 #[.slice A 0 cap] w fun e w' => e = .returned (.tuple #[.int .u64 0, .bool true]) ∧ Drew w w' := by
  go_enter Tryz.func68, Tryz.ntmps68
  go_wp2
  refine wp_loop_rounds 1 ?_
  rw [rounds_succ]
  go_wp2
  go_ret2
  exact ⟨rfl, 0, rfl⟩

theorem narrow_1 (b off cap a : Nat) (w : World) (ha : w.cell? ⟨b, off, none⟩ = some (.int .u32 a)) (hla : a < 1000000000) :
    Calls Tryz.prog 68 #[.slice (some ⟨b, off, none⟩) 1 cap] w fun e w' => e = .returned (.tuple #[.int .u64 a, .bool true]) ∧ Drew w w' := by
  go_enter Tryz.func68, Tryz.ntmps68
  go_wp2
  refine wp_loop_rounds 2 ?_
  rw [rounds_succ]
  go_wp2
  rw [rounds_succ]
  go_wp2
  go_ret2
  exact ⟨rfl, 0, rfl⟩

theorem narrow_2 (b off cap a c : Nat) (w : World) (ha : w.cell? ⟨b, off, none⟩ = some (.int .u32 a)) (hc : w.cell? ⟨b, off + 1, none⟩ = some (.int .u32 c)) (hla : a < 1000000000) (hlc : c < 1000000000) :
    Calls Tryz.prog 68 #[.slice (some ⟨b, off, none⟩) 2 cap] w fun e w' => e = .returned (.tuple #[.int .u64 ((c : Int) * 1000000000 + a), .bool true]) ∧ Drew w w' := by
  go_enter Tryz.func68, Tryz.ntmps68
  go_wp2
  refine wp_loop_rounds 3 ?_
  rw [rounds_succ]
  go_wp2
  rw [rounds_succ]
  go_wp2
  rw [rounds_succ]
  go_wp2
  go_ret2
  exact ⟨rfl, 0, rfl⟩

theorem narrow_3 (b off cap a c d : Nat) (w : World) (ha : w.cell? ⟨b, off, none⟩ = some (.int .u32 a)) (hc : w.cell? ⟨b, off + 1, none⟩ = some (.int .u32 c)) (hd : w.cell? ⟨b, off + 2, none⟩ = some (.int .u32 d))
    (hla : a < 1000000000) (hlc : c < 1000000000) (hld : d ≤ 9) :
    Calls Tryz.prog 68 #[.slice (some ⟨b, off, none⟩) 3 cap] w fun e w' => e = .returned (.tuple #[.int .u64 (((d : Int) * 1000000000 + c) * 1000000000 + a), .bool true]) ∧ Drew w w' := by
  go_enter Tryz.func68, Tryz.ntmps68
  go_wp2
  refine wp_loop_rounds 4 ?_
  rw [rounds_succ]
  go_wp2
  rw [rounds_succ]
  go_wp2
  rw [rounds_succ]
  go_wp2
  rw [rounds_succ]
  go_wp2
  go_ret2
  exact ⟨rfl, 0, rfl⟩

theorem narrow_no3 (b off cap d : Nat) (w : World) (hd : w.cell? ⟨b, off + 2, none⟩ = some (.int .u32 d)) (hld : 9 < d) :
    Calls Tryz.prog 68 #[.slice (some ⟨b, off, none⟩) 3 cap] w fun e w' => e = .returned (.tuple #[.int .u64 0, .bool false]) ∧ Drew w w' := by
  go_enter Tryz.func68, Tryz.ntmps68
  go_wp2
  go_ret2
  exact ⟨rfl, 0, rfl⟩

theorem narrow_no4 (A : Option Addr) (n cap : Nat) (w : World) (hn : 3 < n) :
    Calls Tryz.prog 68 #[.slice A n cap] w fun e w' => e = .returned (.tuple #[.int .u64 0, .bool false]) ∧ Drew w w' := by
  go_enter Tryz.func68, Tryz.ntmps68
  go_wp2
  go_ret2
  exact ⟨rfl, 0, rfl⟩

theorem ret_nb {a b : Int} {p q : Bool} (h : a = b) (k : p = q) : Ending.returned (.tuple #[.int .u64 a, .bool p]) = .returned (.tuple #[.int .u64 b, .bool q]) := by rw [h, k]

def fitsWord (x : Nat) : Bool := decide (x / 1000000000 / 1000000000 ≤ 9)

theorem narrow_any (A : Option Addr) (n cap : Nat) (x : Nat) (w : World) (h : Dg w A n x) :
    Calls Tryz.prog 68 #[.slice A n cap] w fun e w' => e = .returned (.tuple #[.int .u64 ((if fitsWord x then x else 0 : Nat)), .bool (fitsWord x)]) ∧ Drew w w' := by
  have hn := h.len
  have hlt := lt_pow_limbs x
  rw [hn] at hlt
  have hcell : ∀ b off, A = some ⟨b, off, none⟩ → ∀ i, i < n → w.cell? ⟨b, off + i, none⟩ = some (.int .u32 (x / bas ^ i % bas : Nat)) := by
    intro b off e i hi
    obtain ⟨b', off', e', _, hc⟩ := Sl.at h (by omega)
    rw [e] at e'
    obtain ⟨rfl, rfl⟩ : b = b' ∧ off = off' := by injection e' with e'; injection e' with h1 h2; exact ⟨h1, h2⟩
    rw [← getD_toL]
    exact hc i hi
  by_cases h4 : 3 < n
  · have hbig : bas ^ 3 ≤ x := by
      have := pow_limbs_le (n := x) (by rcases Nat.eq_zero_or_pos x with h0 | h0
                                        · rw [h0, limbs_zero] at hn; omega
                                        · exact h0)
      exact Nat.le_trans (Nat.pow_le_pow_right bas_pos (by omega)) this
    simp only [bas] at hbig
    have hf : fitsWord x = false := by unfold fitsWord; rw [decide_eq_false_iff_not]; omega
    refine (narrow_no4 A n cap w h4).mono ?_
    rintro e w' ⟨rfl, hd⟩
    exact ⟨by rw [hf]; rfl, hd⟩
  · by_cases h0 : n = 0
    · subst h0
      have hx : x = 0 := by simpa [bas] using hlt
      subst hx
      exact (narrow_0 A cap w).mono fun _ _ ⟨he, hd⟩ => ⟨he, hd⟩
    · obtain ⟨b, off, rfl, _, _⟩ := Sl.at h (by omega)
      have hc := hcell b off rfl
      clear hcell h
      have c0 := hc 0 (by omega)
      simp only [Nat.pow_zero, Nat.div_one, Nat.add_zero] at c0
      have hfit : x / 1000000000 / 1000000000 ≤ 9 → fitsWord x = true := fun h => by unfold fitsWord; rw [decide_eq_true_iff]; exact h
      by_cases h1 : n = 1
      · subst h1
        simp only [bas] at hlt c0
        refine (narrow_1 b off cap _ w c0 (by omega)).mono ?_
        rintro e w' ⟨rfl, hd⟩
        exact ⟨ret_nb (by rw [hfit (by omega), if_pos rfl]; omega) (hfit (by omega)).symm, hd⟩
      · have c1 := hc 1 (by omega)
        simp only [Nat.pow_one] at c1
        by_cases h2 : n = 2
        · subst h2
          simp only [bas] at hlt c0 c1
          refine (narrow_2 b off cap _ _ w c0 c1 (by omega) (by omega)).mono ?_
          rintro e w' ⟨rfl, hd⟩
          exact ⟨ret_nb (by rw [hfit (by omega), if_pos rfl]; omega) (hfit (by omega)).symm, hd⟩
        · obtain rfl : n = 3 := by omega
          have c2 := hc 2 (by omega)
          simp only [bas] at hlt c0 c1 c2
          have e2 : x / 1000000000 ^ 2 % 1000000000 = x / 1000000000 / 1000000000 := by
            rw [show (1000000000 : Nat) ^ 2 = 1000000000 * 1000000000 from rfl, ← Nat.div_div_eq_div_mul]; omega
          rw [e2] at c2
          by_cases h9 : x / 1000000000 / 1000000000 ≤ 9
          · refine (narrow_3 b off cap _ _ _ w c0 c1 c2 (by omega) (by omega) h9).mono ?_
            rintro e w' ⟨rfl, hd⟩
            exact ⟨ret_nb (by rw [hfit (by omega), if_pos rfl]; omega) (hfit (by omega)).symm, hd⟩
          · have hf : fitsWord x = false := by unfold fitsWord; rw [decide_eq_false_iff_not]; omega
            refine (narrow_no3 b off cap _ w c2 (by omega)).mono ?_
            rintro e w' ⟨rfl, hd⟩
            exact ⟨by rw [hf]; rfl, hd⟩

/-- Two numbers compared. -/
def cmpN (x y : Nat) : Int := if x < y then -1 else if y < x then 1 else 0

theorem cmpAt_eq {l m : List Nat} (hl : Low l) (hm : Low m) (k : Nat) (h1 : k ≤ l.length) (h2 : k ≤ m.length) : cmpAt l m k = cmpN (ofL (l.take k)) (ofL (m.take k)) := by
  induction k with
  | zero => simp [cmpAt, cmpN, ofL]
  | succ k ih =>
    have ih := ih (by omega) (by omega)
    have a1 := ofL_lt (hl.take k)
    have a2 := ofL_lt (hm.take k)
    rw [List.length_take, Nat.min_eq_left (by omega)] at a1 a2
    rw [ofL_take_succ, ofL_take_succ]
    unfold cmpAt
    generalize l.getD k 0 = p at *
    generalize m.getD k 0 = q at *
    generalize ofL (l.take k) = X at *
    generalize ofL (m.take k) = Y at *
    rcases Nat.lt_trichotomy p q with h | h | h
    · rw [if_pos h]
      have e : bas ^ k * (p + 1) ≤ bas ^ k * q := Nat.mul_le_mul_left _ h
      rw [Nat.mul_add] at e
      unfold cmpN; rw [if_pos (by omega)]
    · subst h
      rw [if_neg (Nat.lt_irrefl _), if_neg (Nat.lt_irrefl _), ih]
      unfold cmpN
      by_cases h1 : X < Y
      · rw [if_pos h1, if_pos (by omega)]
      · rw [if_neg h1, if_neg (show ¬ X + bas ^ k * p < Y + bas ^ k * p by omega)]
        by_cases h2 : Y < X
        · rw [if_pos h2, if_pos (by omega)]
        · rw [if_neg h2, if_neg (by omega)]
    · rw [if_neg (by omega), if_pos h]
      have e : bas ^ k * (q + 1) ≤ bas ^ k * p := Nat.mul_le_mul_left _ h
      rw [Nat.mul_add] at e
      unfold cmpN; rw [if_neg (by omega), if_pos (by omega)]

theorem cmpL_toL (x y : Nat) : cmpL (toL x) (toL y) = cmpN x y := by
  unfold cmpL
  by_cases h1 : (toL x).length < (toL y).length
  · rw [if_pos h1]; unfold cmpN; rw [if_pos (lt_of_limbs_lt h1)]
  · rw [if_neg h1]
    by_cases h2 : (toL y).length < (toL x).length
    · rw [if_pos h2]
      have := lt_of_limbs_lt h2
      unfold cmpN; rw [if_neg (by omega), if_pos this]
    · rw [if_neg h2, cmpAt_eq (low_toL x) (low_toL y) _ (Nat.le_refl _) (by omega), List.take_length, List.take_of_length_le (by omega), ofL_toL, ofL_toL]

theorem compare_dg (A B : Option Addr) (n n' c d : Nat) (x y : Nat) (w : World) (h : Dg w A n x) (k : Dg w B n' y) :
    Calls Tryz.prog 40 #[.slice A n c, .slice B n' d] w fun e w' => e = .returned (.int .i64 (cmpN x y)) ∧ Drew w w' := by
  have := compare_any A B n n' c d _ _ w h k
  rwa [cmpL_toL] at this

end Go.Proofs.YtemcdnppgnobmaaGreatDoor

namespace Go.Proofs.YtemcdnppgnobmaaGreatDoor
open Go.RowKit

/-- The digit at the top. -/
def topOf (x : Nat) : Nat := x / bas ^ (limbs x - 1) % bas

theorem Dg.top {w : World} {A : Option Addr} {n x : Nat} (h : Dg w A (n + 1) x) : ∃ b off, A = some ⟨b, off, none⟩ ∧ b < w.heap.size ∧ w.cell? ⟨b, off + n, none⟩ = some (.int .u32 (topOf x : Nat)) := by
  obtain ⟨b, off, e, hs, hc⟩ := Sl.at h (by omega)
  refine ⟨b, off, e, hs, ?_⟩
  rw [hc n (by omega), getD_toL]
  unfold topOf
  rw [h.len, Nat.add_sub_cancel]

theorem topOf_lt (x : Nat) : topOf x < 1000000000 := Nat.mod_lt _ bas_pos

def decimalsOf (x : Nat) : Nat := if x = 0 then 1 else 9 * (limbs x - 1) + count 10 (topOf x)

theorem decimals_any (A : Option Addr) (n cap : Nat) (x : Nat) (w : World) (h : Dg w A n x) (hn9 : n ≤ 100000000000) :
    Calls Tryz.prog 113 #[.slice A n cap] w fun e w' => e = .returned (.int .i64 (decimalsOf x : Nat)) ∧ w' = w := by
  have hn := h.len
  match n, h, hn, hn9 with
  | 0, h, hn, _ =>
    have hx := limbs_eq_zero hn
    subst hx
    clear hn h
    go_enter Tryz.func113, Tryz.ntmps113
    go_wp2
    go_ret
    exact ⟨rfl, rfl⟩
  | n + 1, h, hn, hn9 =>
    obtain ⟨b, off, rfl, hs, hc⟩ := h.top
    have ht := topOf_lt x
    have hd : decimalsOf x = 9 * n + count 10 (topOf x) := by
      unfold decimalsOf
      rw [hn, if_neg (by rintro rfl; simp [limbs_zero] at hn), Nat.add_sub_cancel]
    have HD := Lib.hid hd
    generalize topOf x = t at *
    clear h hn hd
    have hct : count 10 t ≤ 9 := count_le_of_lt (by omega) (by omega)
    go_enter Tryz.func113, Tryz.ntmps113
    go_wp2
    go_loop [3, 4] (fun m y => ∃ p q : Nat, m = .int .i64 p ∧ y = .int .u32 q ∧ q < 1000000000 ∧ p + count 10 q = 9 * n + count 10 t) (fun _ y => (intOf y).toNat)
    case atStart => exact ⟨9 * n, t, by go_num, rfl, ht, rfl⟩
    case round =>
      obtain ⟨p, q, rfl, rfl, hq, hz⟩ := hrel
      have hp : p ≤ 9 * n + 9 := by omega
      have Hz := Lib.hid hz
      clear hz
      by_cases h0 : q = 0
      · subst h0
        go_wp2
        go_ret
        exact ⟨ret_int (by rw [HD.out, ← Hz.out, count_zero, Nat.add_zero]), rfl⟩
      · have hq0 : 0 < q := by omega
        go_wp2
        go_round
        case rel => exact ⟨p + 1, q / 10, by go_num, by go_num, by omega, by rw [← Hz.out, count_pos (q := 10) (by omega) hq0]; omega⟩
        case measure => simp [intOf]; omega

def boundOf (x : Nat) : Nat := if x = 0 then 0 else 30 * (limbs x - 1) + count 2 (topOf x)

theorem bound_any (A : Option Addr) (n cap : Nat) (x : Nat) (w : World) (h : Dg w A n x) (hn9 : n ≤ 100000000000) :
    Calls Tryz.prog 119 #[.slice A n cap] w fun e w' => e = .returned (.int .i64 (boundOf x : Nat)) ∧ w' = w := by
  have hn := h.len
  match n, h, hn, hn9 with
  | 0, h, hn, _ =>
    have hx := limbs_eq_zero hn
    subst hx
    clear hn h
    go_enter Tryz.func119, Tryz.ntmps119
    go_wp2
    go_ret
    exact ⟨rfl, rfl⟩
  | n + 1, h, hn, hn9 =>
    obtain ⟨b, off, rfl, hs, hc⟩ := h.top
    have ht := topOf_lt x
    have hd : boundOf x = 30 * n + count 2 (topOf x) := by
      unfold boundOf
      rw [hn, if_neg (by rintro rfl; simp [limbs_zero] at hn), Nat.add_sub_cancel]
    have HD := Lib.hid hd
    generalize topOf x = t at *
    clear h hn hd
    have hct : count 2 t ≤ 30 := count_le_of_lt (by omega) (by omega)
    go_enter Tryz.func119, Tryz.ntmps119
    go_wp2
    go_loop [3, 4] (fun m y => ∃ p q : Nat, m = .int .i64 p ∧ y = .int .u32 q ∧ q < 1000000000 ∧ p + count 2 q = 30 * n + count 2 t) (fun _ y => (intOf y).toNat)
    case atStart => exact ⟨30 * n, t, by go_num, rfl, ht, rfl⟩
    case round =>
      obtain ⟨p, q, rfl, rfl, hq, hz⟩ := hrel
      have hp : p ≤ 30 * n + 30 := by omega
      have Hz := Lib.hid hz
      clear hz
      by_cases h0 : q = 0
      · subst h0
        go_wp2
        go_ret
        exact ⟨ret_int (by rw [HD.out, ← Hz.out, count_zero, Nat.add_zero]), rfl⟩
      · have hq0 : 0 < q := by omega
        go_wp2
        go_round
        case rel => exact ⟨p + 1, q / 2, by go_num, by go_num, by omega, by rw [← Hz.out, count_pos (q := 2) (by omega) hq0]; omega⟩
        case measure => simp [intOf]; omega

end Go.Proofs.YtemcdnppgnobmaaGreatDoor
