/-
  Plain mathematics of the reference's numbers: the guessed limb of a quotient, the letters from the lowest on, a row turned round.
  The walks of the reference's trim, CmpN and Int.
-/
import Derived.Test.YtemcdnppgnobmaaGreatDoorWri
import Derived.Test.YtemcdnppgnobmaaGreatDoorZer
import Derived.Test.YtemcdnppgnobmaaGreatDoorInt4
set_option linter.unusedVariables false
namespace Go.Proofs.YtemcdnppgnobmaaGreatDoor

theorem toL_drop (j : Nat) : ∀ x : Nat, (toL x).drop j = toL (x / bas ^ j) := by
  induction j with
  | zero => intro x; simp
  | succ j ih =>
    intro x
    rcases Nat.eq_zero_or_pos x with h | h
    · subst h; simp [toL_zero]
    · rw [toL_pos h, List.drop_succ_cons, ih, Nat.div_div_eq_div_mul, Nat.pow_succ, Nat.mul_comm]
theorem ofL_drop_toL (x j : Nat) : ofL ((toL x).drop j) = x / bas ^ j := by rw [toL_drop, ofL_toL]

/-- The limb that is guessed. -/
def gueN (R Y : Nat) : Nat := max 1 (min (bas - 1) (R / bas ^ (limbs Y - 1) / (Y / bas ^ (limbs Y - 1) + 1)))

theorem gueN_ok {R Y : Nat} (hR : Y ≤ R) : gueN R Y * Y ≤ R ∧ 1 ≤ gueN R Y ∧ gueN R Y < bas := by
  have hB : 0 < bas ^ (limbs Y - 1) := Nat.pow_pos bas_pos
  generalize hBe : bas ^ (limbs Y - 1) = B at hB
  have hlt : Y < (Y / B + 1) * B := by
    have h1 := Nat.div_add_mod Y B
    have h2 := Nat.mod_lt Y hB
    rw [Nat.add_mul, Nat.mul_comm (Y / B)]
    omega
  have hq : (R / B / (Y / B + 1)) * Y ≤ R := by
    have h1 : (R / B / (Y / B + 1)) * (Y / B + 1) ≤ R / B := Nat.div_mul_le_self _ _
    have h2 : R / B * B ≤ R := Nat.div_mul_le_self _ _
    calc (R / B / (Y / B + 1)) * Y ≤ (R / B / (Y / B + 1)) * ((Y / B + 1) * B) := Nat.mul_le_mul_left _ (Nat.le_of_lt hlt)
      _ = (R / B / (Y / B + 1)) * (Y / B + 1) * B := by rw [Nat.mul_assoc]
      _ ≤ R / B * B := Nat.mul_le_mul_right _ h1
      _ ≤ R := h2
  unfold gueN
  rw [hBe]
  have hb : 1 < bas := by decide
  refine ⟨?_, Nat.le_max_left _ _, by omega⟩
  rcases Nat.le_total (min (bas - 1) (R / B / (Y / B + 1))) 1 with h | h
  · rw [Nat.max_eq_left h, Nat.one_mul]; exact hR
  · rw [Nat.max_eq_right h]
    exact Nat.le_trans (Nat.mul_le_mul_right _ (Nat.min_le_right _ _)) hq

theorem top_lt {R Y : Nat} (hRb : R < Y * bas) : R / bas ^ (limbs Y - 1) < bas * bas := by
  have h1 := lt_pow_limbs Y
  apply Nat.div_lt_of_lt_mul
  rcases Nat.eq_zero_or_pos (limbs Y) with h0 | h0
  · have := limbs_eq_zero h0
    subst this; omega
  · obtain ⟨k, hk⟩ : ∃ k, limbs Y = k + 1 := ⟨limbs Y - 1, by omega⟩
    rw [hk] at h1 ⊢
    rw [Nat.add_sub_cancel]
    rw [Nat.pow_succ] at h1
    have h2 := Nat.mul_lt_mul_of_pos_right h1 bas_pos
    rw [← Nat.mul_assoc]
    omega
theorem limbs_over {R Y : Nat} (hRb : R < Y * bas) : limbs R ≤ limbs Y + 1 := by
  apply limbs_le_of_lt
  rw [Nat.pow_succ]
  have := Nat.mul_le_mul_right bas (Nat.le_of_lt (lt_pow_limbs Y))
  omega

theorem bring_lt {x R Y : Nat} (hx : x < bas) (hR : R < Y) : x + bas * R < Y * bas := by
  have := Nat.mul_le_mul_right bas (show R + 1 ≤ Y from hR)
  rw [Nat.add_mul, Nat.mul_comm R] at this
  omega
theorem toL_bring {x R : Nat} (hx : x < bas) : trimL (x :: toL R) = toL (x + bas * R) := by
  have := trim_eq_toL (Low.cons hx (low_toL R))
  rw [this]
  show toL (x + bas * ofL (toL R)) = _
  rw [ofL_toL]

/-- What the division of the scaled numbers gives. -/
theorem scaled_div (a b d : Nat) (hd : 0 < d) : a * d / (b * d) = a / b ∧ a * d % (b * d) / d = a % b := by
  refine ⟨Nat.mul_div_mul_right _ _ hd, ?_⟩
  rw [Nat.mul_mod_mul_right, Nat.mul_div_cancel _ hd]

/-- The letters from the lowest on. -/
def lowD (x n : Nat) : List Nat := (List.range n).map (dig x)
theorem lowD_length (x n : Nat) : (lowD x n).length = n := by simp [lowD]
theorem lowD_succ (x n : Nat) : lowD x (n + 1) = lowD x n ++ [dig x n] := by simp [lowD, List.range_succ]
theorem lowD_take (x n m : Nat) (h : m ≤ n) : (lowD x n).take m = lowD x m := by
  unfold lowD
  rw [← List.map_take, List.take_range, Nat.min_eq_left h]
theorem lowD_get (x n i : Nat) (h : i < n) : (lowD x n).getD i 0 = dig x i := by
  simp [lowD, List.getD_eq_getElem?_getD, h]
theorem dig_high {x p : Nat} (h : dl x ≤ p) : dig x p = 48 := by
  have h1 := lt_pow_count (q := 10) (by omega) x
  have h2 : 10 ^ count 10 x ≤ 10 ^ p := Nat.pow_le_pow_right (by omega) h
  unfold dig
  rw [Nat.div_eq_of_lt (by omega)]
theorem dig_top {x : Nat} (h : 0 < x) : dig x (dl x - 1) ≠ 48 := by
  have h1 := lt_pow_count (q := 10) (by omega) x
  have h2 := pow_count_le (q := 10) (by omega) h
  have hc : count 10 x = count 10 (x / 10) + 1 := count_pos (by omega) h
  obtain ⟨k, hk⟩ : ∃ k, count 10 x = k + 1 := ⟨_, hc⟩
  show 48 + x / 10 ^ (count 10 x - 1) % 10 ≠ 48
  rw [hk] at h1 h2 ⊢
  rw [Nat.add_sub_cancel] at h2 ⊢
  rw [Nat.pow_succ] at h1
  have hp : 0 < 10 ^ k := Nat.pow_pos (by omega)
  have h3 : 1 ≤ x / 10 ^ k := Nat.div_pos h2 hp
  have h4 : x / 10 ^ k < 10 := Nat.div_lt_of_lt_mul (by omega)
  omega
theorem dl_le_limbs (x : Nat) : dl x ≤ 9 * limbs x := by
  refine count_le_of_lt (by omega) ?_
  have := lt_pow_limbs x
  rw [Nat.pow_mul]
  exact this
theorem dl_pos {x : Nat} (h : 0 < x) : 0 < dl x := by
  have : count 10 x = count 10 (x / 10) + 1 := count_pos (by omega) h
  show 0 < count 10 x
  omega
theorem dig_of_limb (x i k : Nat) (hk : k < 9) : 48 + (toL x).getD i 0 / 10 ^ k % 10 = dig x (9 * i + k) := by
  rw [getD_toL, dig_limb x i k hk]; rfl

/-- A row of which the first and the last t elements have changed places. -/
def revP (l : List Nat) (t : Nat) : List Nat := (List.range l.length).map fun i => if i < t ∨ l.length ≤ i + t then l.getD (l.length - 1 - i) 0 else l.getD i 0
theorem revP_length (l : List Nat) (t : Nat) : (revP l t).length = l.length := by simp [revP]
theorem revP_zero (l : List Nat) : revP l 0 = l := by
  apply List.ext_getElem
  · simp [revP]
  · intro i h1 h2
    simp only [revP, List.getElem_map, List.getElem_range]
    rw [if_neg (by omega), List.getD_eq_getElem?_getD, List.getElem?_eq_getElem h2]
    rfl
theorem revP_get (l : List Nat) (t i : Nat) (h : i < l.length) : (revP l t).getD i 0 = if i < t ∨ l.length ≤ i + t then l.getD (l.length - 1 - i) 0 else l.getD i 0 := by
  simp [revP, List.getD_eq_getElem?_getD, h]
theorem revP_step (l : List Nat) (t : Nat) (h : t < l.length - 1 - t) : ((revP l t).set t (l.getD (l.length - 1 - t) 0)).set (l.length - 1 - t) (l.getD t 0) = revP l (t + 1) := by
  apply List.ext_getElem
  · simp [revP]
  · intro i h1 h2
    have hi : i < l.length := by simpa [revP] using h2
    rw [List.getElem_set]
    simp only [revP, List.getElem_set, List.getElem_map, List.getElem_range]
    by_cases e1 : l.length - 1 - t = i
    · rw [if_pos e1, if_pos (by omega)]
      congr 1
      omega
    · rw [if_neg e1]
      by_cases e2 : t = i
      · subst e2
        rw [if_pos rfl, if_pos (by omega)]
      · rw [if_neg e2]
        by_cases e3 : i < t ∨ l.length ≤ i + t
        · rw [if_pos e3, if_pos (by omega)]
        · have e4 : ¬ (i < t + 1 ∨ l.length ≤ i + (t + 1)) := by omega
          rw [if_neg e3, if_neg e4]
theorem revP_full (l : List Nat) (t : Nat) (h : l.length - 1 - t ≤ t) : revP l t = l.reverse := by
  apply List.ext_getElem
  · simp [revP]
  · intro i h1 h2
    have hi : i < l.length := by simpa using h2
    simp only [revP, List.getElem_map, List.getElem_range]
    rw [List.getElem_reverse]
    by_cases e : i < t ∨ l.length ≤ i + t
    · rw [if_pos e, List.getD_eq_getElem?_getD, List.getElem?_eq_getElem (by omega)]
      rfl
    · have e1 : l.length - 1 - i = i := by omega
      rw [if_neg e, List.getD_eq_getElem?_getD, List.getElem?_eq_getElem hi]
      simp only [e1]
      rfl
theorem lowD_reverse (x : Nat) : (lowD x (dn x)).reverse = decL x := by
  apply List.ext_getElem
  · simp [lowD, decL]
  · intro i h1 h2
    have hi : i < dn x := by simpa [decL] using h2
    rw [List.getElem_reverse]
    simp [lowD, decL]
theorem decZ_rev (x : Nat) (neg : Bool) (z : Int) (hx : z.natAbs = x) (hn : decide (z < 0) = neg) : (lowD x (dn x) ++ if neg then [45] else []).reverse = decZ z := by
  subst hx hn
  rw [List.reverse_append, lowD_reverse]
  unfold decZ
  congr 1
  by_cases h : z < 0
  · simp [h]
  · simp [h]
end Go.Proofs.YtemcdnppgnobmaaGreatDoor

namespace Go.Proofs.YtemcdnppgnobmaaGreatDoor
open Go.RowKit

/-- A number of the reference: a row of limbs. -/
def Nd (w : World) (A : Option Addr) (n c x : Nat) : Prop := Sl .i64 w A n (toL x) ∧ n ≤ c
theorem Nd.below {w w' : World} {A : Option Addr} {n c x : Nat} (h : Nd w A n c x) (hb : Below w.heap.size w w') : Nd w' A n c x := ⟨h.1.below hb, h.2⟩
theorem Nd.len {w : World} {A : Option Addr} {n c x : Nat} (h : Nd w A n c x) : limbs x = n := h.1.len
theorem Nd.nil {w : World} {c : Nat} : Nd w none 0 c 0 := ⟨Sl.nil, Nat.zero_le _⟩

/-- The row lies from block B on. -/
def Fr (B : Nat) (A : Option Addr) (n : Nat) : Prop := 0 < n → ∃ b off, A = some ⟨b, off, none⟩ ∧ B ≤ b
theorem Fr.le {B B' : Nat} {A : Option Addr} {n m : Nat} (h : Fr B A n) (hB : B' ≤ B) (hm : m ≤ n) : Fr B' A m := fun h0 => by
  obtain ⟨b, off, e, hb⟩ := h (by omega)
  exact ⟨b, off, e, by omega⟩
theorem Fr.nil {B : Nat} {A : Option Addr} : Fr B A 0 := fun h => absurd h (by omega)
theorem Nd.other {w w' : World} {A : Option Addr} {n c x g B : Nat} (h : Nd w A n c x) (hf : Fr B A n) (ho : Only g w w') (hg : g < B) : Nd w' A n c x := by
  obtain ⟨⟨h1, h2, h3⟩, h4⟩ := h
  refine ⟨⟨h1, h2, fun hn => ?_⟩, h4⟩
  obtain ⟨b, off, e, hs, hc⟩ := h3 hn
  obtain ⟨b', off', e', hb'⟩ := hf hn
  have hbb : b = b' := by
    rw [e] at e'
    injection e' with e'
    injection e'
  exact ⟨b, off, e, by rw [ho.size]; exact hs, fun i hi => (ho.cell (p := ⟨b, off + i, none⟩) (show b ≠ g by omega)).trans (hc i hi)⟩
def RetN (x : Nat) (w : World) (e : Ending) (w' : World) : Prop := ∃ A n c, e = .returned (.slice A n c) ∧ Nd w' A n c x ∧ Below w.heap.size w w' ∧ Fr w.heap.size A n

/-- The length of a slice. -/
def lenV : Value → Nat
  | .slice _ n _ => n
  | _ => 0

set_option maxRecDepth 100000 in
theorem rtrim_any (A : Option Addr) (c n : Nat) (l : List Nat) (w : World) (h : Sl .i64 w A n l) (hlow : Low l) (hcap : n ≤ c) :
    Calls Tryz.prog 56 #[.slice A n c] w (fun e w' => ∃ m, e = .returned (.slice A m c) ∧ Nd w' A m c (ofL l) ∧ Drew w w' ∧ m ≤ n) := by
  have hmax := h.max
  have hlen := Lib.hid h.len
  go_enter Tryz.func56, Tryz.ntmps56
  go_wp2
  go_loopw [0] (fun v wr => Drew w wr ∧ ∃ j : Nat, j ≤ n ∧ v = .slice A j c ∧ trimL (l.take j) = trimL l) (fun v _ => lenV v)
  case atStart => exact ⟨⟨0, rfl⟩, n, Nat.le_refl _, rfl, by rw [← hlen.out, List.take_length]⟩
  case round =>
    obtain ⟨⟨q, rfl⟩, j, hj, rfl, hz⟩ := hrel
    have Hz := Lib.hid hz
    clear hz
    by_cases h0 : j = 0
    · subst h0
      go_wp2
      go_ret
      have hx : ofL l = 0 := by rw [← ofL_trim, ← Hz.out]; rfl
      rw [hx]
      exact ⟨0, rfl, ⟨Sl.nil, Nat.zero_le _⟩, ⟨q, rfl⟩, Nat.zero_le _⟩
    · obtain ⟨k, rfl⟩ : ∃ k, j = k + 1 := ⟨j - 1, by omega⟩
      obtain ⟨b, off, rfl, hbs, ha⟩ := h.at (by omega)
      have hca := ha k (by omega)
      have Hs := Lib.hid (take_snoc l k (by rw [hlen.out]; omega))
      have Hh := Lib.hid h
      clear ha h
      generalize hx : l.getD k 0 = x at *
      have Hx := Lib.hid hx
      clear hx
      by_cases h1 : x = 0
      · subst h1
        go_wp2
        go_roundw
        case rel =>
          refine ⟨(by exact ⟨_, rfl⟩), k, by omega, rfl, ?_⟩
          rw [← Hz.out, Hs.out, trim_snoc_zero]
        case measure => simp [lenV]
      · have hxe : ((x : Int) == 0) = false := by rw [beq_eq_false_iff_ne]; omega
        have Hh1 := Lib.hid h1
        clear h1
        go_wp2
        go_ret
        have ht : l.take (k + 1) = toL (ofL l) := by
          rw [← trim_eq_toL hlow, ← Hz.out, Hs.out, trim_snoc_pos _ _ Hh1.out]
        refine ⟨k + 1, rfl, ⟨?_, by omega⟩, ⟨q, rfl⟩, hj⟩
        rw [← ht]
        exact (Hh.out.take (by omega)).drewN q

set_option maxRecDepth 100000 in
theorem rcmp_same (A B : Option Addr) (n c d : Nat) (l m : List Nat) (w : World) (h : Sl .i64 w A n l) (k : Sl .i64 w B n m) :
    Calls Tryz.prog 36 #[.slice A n c, .slice B n d] w fun e w' => e = .returned (.int .i64 (cmpL l m)) ∧ Drew w w' := by
  have HC : Hid (cmpL l m = cmpAt l m n) := by
    show cmpL l m = _
    unfold cmpL; rw [h.len, k.len, if_neg (by omega), if_neg (by omega)]
  have hmax := h.max
  go_enter Tryz.func36, Tryz.ntmps36
  go_wp2
  go_loopw [5] (fun i wr => Drew w wr ∧ ((i = .int .i64 (-1) ∧ cmpAt l m n = 0) ∨ ∃ j : Nat, j < n ∧ i = .int .i64 j ∧ cmpAt l m (j + 1) = cmpAt l m n)) (fun i _ => (intOf i + 1).toNat)
  case atStart =>
    refine ⟨⟨0, rfl⟩, ?_⟩
    match n with
    | 0 => exact Or.inl ⟨rfl, rfl⟩
    | n + 1 => exact Or.inr ⟨n, by omega, by go_num, rfl⟩
  case round =>
    obtain ⟨⟨q, rfl⟩, ⟨rfl, hz⟩ | ⟨j, hj, rfl, hz⟩⟩ := hrel
    · have Hz := Lib.hid hz
      clear hz
      go_wp2
      go_ret
      exact ⟨ret_int (by rw [HC.out, Hz.out]), q, rfl⟩
    · obtain ⟨b, off, rfl, -, ha⟩ := h.at (by omega)
      obtain ⟨b', off', rfl, -, hb⟩ := k.at (by omega)
      have hca := ha j hj
      have hcb := hb j hj
      have Hz := Lib.hid hz
      clear hz h k
      generalize hx : l.getD j 0 = x at *
      generalize hy : m.getD j 0 = y at *
      have Hx := Lib.hid hx
      have Hy := Lib.hid hy
      clear hx hy ha hb
      rcases Nat.lt_trichotomy x y with hlt | heq | hgt
      · go_wp2
        go_quiet (fail)
        go_wp2
        go_ret
        refine ⟨ret_int ?_, (by repeat (first | exact Drew.refl _ | refine Drew.drewN ?_ _))⟩
        rw [HC.out, ← Hz.out]; unfold cmpAt; rw [Hx.out, Hy.out, if_pos hlt]
      · subst heq
        go_wp2
        go_quiet (fail)
        go_wp2
        go_quiet (fail)
        go_wp2
        go_roundw
        case rel =>
          have hz' : cmpAt l m j = cmpAt l m n := by rw [← Hz.out]; conv => rhs; unfold cmpAt
                                                     rw [Hx.out, Hy.out, if_neg (by omega), if_neg (by omega)]
          refine ⟨(by exact ⟨_, rfl⟩), ?_⟩
          match j with
          | 0 => exact Or.inl ⟨rfl, hz'.symm⟩
          | j + 1 => exact Or.inr ⟨j, by omega, by go_num, hz'⟩
        case measure => simp [intOf]
      · go_wp2
        go_quiet (fail)
        go_wp2
        go_quiet (fail)
        go_wp2
        go_ret
        refine ⟨ret_int ?_, (by repeat (first | exact Drew.refl _ | refine Drew.drewN ?_ _))⟩
        rw [HC.out, ← Hz.out]; unfold cmpAt; rw [Hx.out, Hy.out, if_neg (by omega), if_pos hgt]

theorem rcmp_any (A B : Option Addr) (n m c d : Nat) (x y : Nat) (w : World) (h : Nd w A n c x) (k : Nd w B m d y) :
    Calls Tryz.prog 36 #[.slice A n c, .slice B m d] w fun e w' => e = .returned (.int .i64 (cmpN x y)) ∧ Drew w w' := by
  rw [← cmpL_toL]
  by_cases hl : n = m
  · subst hl
    exact rcmp_same A B n c d _ _ w h.1 k.1
  · have hb : ((n : Int) != m) = true := by rw [bne_iff_ne]; omega
    have h1 := h.1.len
    have h2 := k.1.len
    by_cases hlt : n < m
    · have HC : Hid (cmpL (toL x) (toL y) = -1) := if_pos (by omega)
      clear h1 h2 hl h k
      go_enter Tryz.func36, Tryz.ntmps36
      go_wp2
      go_ret
      exact ⟨ret_int HC.out.symm, 0, rfl⟩
    · have HC : Hid (cmpL (toL x) (toL y) = 1) := by show cmpL (toL x) (toL y) = 1; unfold cmpL; rw [if_neg (by omega), if_pos (by omega)]
      have hgt : m < n := by omega
      clear h1 h2 hl h k
      go_enter Tryz.func36, Tryz.ntmps36
      go_wp2
      go_ret
      exact ⟨ret_int HC.out.symm, 0, rfl⟩

/-- The value of an integer of the reference. -/
def zV (z : Int) (A : Option Addr) (n c : Nat) : Value := .agg #[.bool (decide (z < 0)), .slice A n c]
def RetZ (z : Int) (w : World) (e : Ending) (w' : World) : Prop := ∃ A n c, e = .returned (zV z A n c) ∧ Nd w' A n c z.natAbs ∧ Below w.heap.size w w'

theorem rint_at (neg : Bool) (A : Option Addr) (n c x : Nat) (z : Int) (w : World) (h : Nd w A n c x)
    (hz : decide (z < 0) = (neg && decide (0 < n))) (ha : z.natAbs = x) :
    Calls Tryz.prog 34 #[.bool neg, .slice A n c] w (fun e w' => e = .returned (zV z A n c) ∧ Nd w' A n c z.natAbs ∧ Below w.heap.size w w') := by
  subst ha
  have Hz := Lib.hid hz
  clear hz
  have hblk := fun (b : Bool) => Blk.new w 29 #[.bool b, .slice A n c]
  have hend : ∀ b : Bool, decide (z < 0) = b → ∀ a : Act, a.tmps[4]? = some (.pointer (some ⟨w.heap.size, 0, none⟩)) → a.defers = [] →
      bodyPost Tryz.prog Tryz.f34 (fun e w' => e = .returned (zV z A n c) ∧ Nd w' A n c z.natAbs ∧ Below w.heap.size w w') .ret a (w.alloc (.cells #[.bool b, .slice A n c] 29)) := by
    intro b hb a h4 hd
    have c0 := (hblk b).cell 0
    have c1 := (hblk b).cell 1
    refine bodyPost_ret (v := .agg #[.bool b, .slice A n c]) (by simp [results, Tryz.results34, go_sem, c0, c1, h4]) hd ⟨by rw [← hb]; rfl, h.below ((Below.refl _ _).alloc (Nat.le_refl _) _), (Below.refl _ _).alloc (Nat.le_refl _) _⟩
  have Hend := Lib.hid hend
  clear hend hblk
  cases neg
  · go_enter Tryz.func34, Tryz.ntmps34
    go_wp2_with fail
    exact Hend.out false (by simpa using Hz.out) _ rfl rfl
  · by_cases hn : 0 < n
    · go_enter Tryz.func34, Tryz.ntmps34
      go_wp2_with fail
      exact Hend.out true (by simpa [hn] using Hz.out) _ rfl rfl
    · go_enter Tryz.func34, Tryz.ntmps34
      go_wp2_with fail
      exact Hend.out false (by simpa [hn] using Hz.out) _ rfl rfl

theorem rint_any (neg : Bool) (A : Option Addr) (n c x : Nat) (z : Int) (w : World) (h : Nd w A n c x) (hzx : z = if neg then -(x : Int) else x) :
    Calls Tryz.prog 34 #[.bool neg, .slice A n c] w (fun e w' => e = .returned (zV z A n c) ∧ Nd w' A n c z.natAbs ∧ Below w.heap.size w w') := by
  have hn := h.len
  refine rint_at neg A n c x z w h ?_ (by subst hzx; cases neg <;> simp)
  subst hzx
  rcases Nat.eq_zero_or_pos x with rfl | hx
  · rw [limbs_zero] at hn; subst hn; cases neg <;> simp
  · have hn0 : 0 < n := by
      rcases Nat.eq_zero_or_pos n with rfl | e
      · exact absurd (limbs_eq_zero hn) (by omega)
      · exact e
    cases neg <;> simp [hn0] <;> omega
end Go.Proofs.YtemcdnppgnobmaaGreatDoor
