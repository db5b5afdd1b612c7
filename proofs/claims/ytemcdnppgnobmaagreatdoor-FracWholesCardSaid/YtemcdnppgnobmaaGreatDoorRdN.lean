/-
  Plain numbers and letters for what reads decimal digits.
  Plain numbers for what reads decimal digits nine by nine.
-/
import Derived.Test.YtemcdnppgnobmaaGreatDoorRfA
import Derived.Test.YtemcdnppgnobmaaGreatDoorStr
import Derived.Test.YtemcdnppgnobmaaGreatDoorRfB
import Derived.Test.YtemcdnppgnobmaaGreatDoorGcd5
set_option linter.unusedVariables false
namespace Go.Proofs.YtemcdnppgnobmaaGreatDoor
open Go.RowKit

theorem decL_get (x i : Nat) (h : i < dn x) : (decL x).getD i 0 = dig x (dn x - 1 - i) := by
  unfold decL
  rw [List.getD_eq_getElem?_getD, List.getElem?_map, List.getElem?_range h]
  rfl
theorem lt_pow_dn (x : Nat) : x < 10 ^ dn x := by
  have h := lt_pow_count (q := 10) (by omega) x
  have h2 : 10 ^ count 10 x ≤ 10 ^ dn x := Nat.pow_le_pow_right (by omega) (by show count 10 x ≤ max 1 (count 10 x); omega)
  omega
theorem read_go (x j m : Nat) : x / 10 ^ (j + 1) % 10 ^ m * 10 + (dig x j - 48) = x / 10 ^ j % 10 ^ (m + 1) := by
  unfold dig
  rw [Nat.pow_succ, ← Nat.div_div_eq_div_mul, Nat.pow_succ, Nat.mul_comm (10 ^ m) 10, Nat.mod_mul]
  generalize x / 10 ^ j = y
  omega
theorem limb_mod (x k : Nat) : x % bas ^ (k + 1) = x % bas ^ k + bas ^ k * (x / bas ^ k % bas) := by
  rw [Nat.pow_succ, Nat.mod_mul]
theorem decL_first {x : Nat} (h : 0 < x) : (decL x).getD 0 0 ≠ 48 := by
  rw [decL_get _ _ (dn_pos x), Nat.sub_zero, dn_ne h]
  exact dig_top h
theorem dig_ge (x p : Nat) : 48 ≤ dig x p := by unfold dig; omega
theorem decL_zero : decL 0 = [48] := by decide
theorem strL_get (l : List Nat) (i : Nat) (h : i < (strL l).size) (hb : l.getD i 0 < 256) : ((strL l)[i]'h).toNat = l.getD i 0 := by
  have hl : i < l.length := by rw [strL_size] at h; exact h
  have e : (strL l)[i]'h = UInt8.ofNat (l.getD i 0) := by
    show (strL l).data[i]'h = _
    simp [strL, strOfNums, hl, List.getD_eq_getElem?_getD]
  rw [e, UInt8.toNat_ofNat']
  exact Nat.mod_eq_of_lt hb
theorem strL_drop (l : List Nat) : (strL l).extract 1 (strL l).size = strL (l.drop 1) := by
  apply ByteArray.ext
  apply Array.ext'
  rw [ByteArray.data_extract]
  have h1 : (strL l).data.toList = l.map fun (x : Nat) => UInt8.ofNat ((x : Int)).toNat := by unfold strL; rw [strOfNums_data, List.map_map]; rfl
  have h2 : (strL (l.drop 1)).data.toList = (l.drop 1).map fun (x : Nat) => UInt8.ofNat ((x : Int)).toNat := by unfold strL; rw [strOfNums_data, List.map_map]; rfl
  rw [Array.toList_extract, h1, h2, strL_size, List.extract_eq_take_drop, List.map_drop, List.take_of_length_le (by simp)]
theorem strL_inj_zero {x : Nat} (h : 0 < x) (h' : (strL (decL x)).toList = [48]) : False := by
  rw [ByteArray.toList_eq] at h'
  have h1 : (strL (decL x)).data.toList = (decL x).map fun (x : Nat) => UInt8.ofNat ((x : Int)).toNat := by unfold strL; rw [strOfNums_data, List.map_map]; rfl
  rw [h1] at h'
  have h2 := congrArg List.length h'
  rw [List.length_map, decL_length] at h2
  have h3 := decL_first h
  have h4 := decL_get x 0 (dn_pos x)
  have h5 := dig_lt x (dn x - 1 - 0)
  rw [← h4] at h5
  match hd : decL x with
  | [] => rw [← decL_length, hd] at h2; simp at h2
  | c :: t =>
    rw [hd] at h' h3 h5
    simp only [List.map_cons, List.cons.injEq] at h'
    have h6 := congrArg UInt8.toNat h'.1
    rw [UInt8.toNat_ofNat', Int.toNat_natCast] at h6
    simp only [List.getD_cons_zero] at h3 h5
    rw [Nat.mod_eq_of_lt (by omega)] at h6
    exact h3 h6
end Go.Proofs.YtemcdnppgnobmaaGreatDoor

set_option linter.unusedVariables false
namespace Go.Proofs.YtemcdnppgnobmaaGreatDoor
open Go.RowKit

theorem bas_ten (k : Nat) : bas ^ k = 10 ^ (9 * k) := by rw [Nat.pow_mul]; rfl
theorem limb_here (x L k : Nat) (hx : x < 10 ^ L) (hk : 9 * k < L) : x / 10 ^ (9 * k) % 10 ^ (min 9 (L - 9 * k)) = x / bas ^ k % bas := by
  rw [bas_ten]
  rcases Nat.lt_or_ge (L - 9 * k) 9 with h | h
  · rw [Nat.min_eq_right (by omega)]
    have h1 : x / 10 ^ (9 * k) < 10 ^ (L - 9 * k) := by
      apply Nat.div_lt_of_lt_mul
      rw [← Nat.pow_add, show 9 * k + (L - 9 * k) = L by omega]
      exact hx
    have h2 : 10 ^ (L - 9 * k) ≤ 10 ^ 9 := Nat.pow_le_pow_right (by omega) (by omega)
    have h3 : (10 : Nat) ^ 9 = bas := rfl
    rw [Nat.mod_eq_of_lt h1, Nat.mod_eq_of_lt (by omega)]
  · rw [Nat.min_eq_left h]
    rfl
theorem mod_all (x L k : Nat) (hx : x < 10 ^ L) (hk : L ≤ 9 * k) : x % bas ^ k = x := by
  rw [bas_ten]
  have h2 : 10 ^ L ≤ 10 ^ (9 * k) := Nat.pow_le_pow_right (by omega) hk
  exact Nat.mod_eq_of_lt (by omega)

/-- After k limbs. -/
def RdRel (w0 : World) (x L : Nat) (o e : Value) (wr : World) : Prop :=
  ∃ k : Nat, e = .int .i64 ((L : Int) - 9 * k) ∧ 9 * k < L + 9 ∧ ∃ xs, wr.ownsRow w0.heap.size 66 1 o k (nums .u32 xs) ∧ Low xs ∧ ofL xs = x % bas ^ k ∧ Below w0.heap.size w0 wr

/-- Within a limb: from s to e, up to p. -/
def RdIn (x L s e : Nat) (v i : Value) : Prop :=
  ∃ p : Nat, s ≤ p ∧ p ≤ e ∧ i = .int .i64 p ∧ v = .int .u32 (x / 10 ^ (L - p) % 10 ^ (p - s) : Nat)

theorem RdIn.bound (x L s e p : Nat) (h1 : p < e) (h2 : e ≤ s + 9) (h3 : s ≤ p) : x / 10 ^ (L - p) % 10 ^ (p - s) < 100000000 := by
  have h : 10 ^ (p - s) ≤ 10 ^ 8 := Nat.pow_le_pow_right (by omega) (by omega)
  have h4 := Nat.mod_lt (x / 10 ^ (L - p)) (show 0 < 10 ^ (p - s) from Nat.pow_pos (by omega))
  have h5 : (10 : Nat) ^ 8 = 100000000 := rfl
  omega
theorem RdIn.step (x L s p : Nat) (h1 : p < L) (h3 : s ≤ p) : x / 10 ^ (L - p) % 10 ^ (p - s) * 10 + (dig x (L - 1 - p) - 48) = x / 10 ^ (L - (p + 1)) % 10 ^ (p + 1 - s) := by
  have := read_go x (L - 1 - p) (p - s)
  rw [show L - 1 - p + 1 = L - p by omega] at this
  rw [this, show L - (p + 1) = L - 1 - p by omega, show p + 1 - s = p - s + 1 by omega]

theorem RdRel.next {w0 w1 : World} {x L k : Nat} {xs : List Nat} {o u e : Value} (hx : x < 10 ^ L) (hk : 9 * k < L) (hlen : xs.length = k) (hown : w1.ownsRow w0.heap.size 66 1 o (k + 1) (nums .u32 xs ++ [u])) (hlow : Low xs) (hof : ofL xs = x % bas ^ k)
    (hbel : Below w0.heap.size w0 w1) (hu : u = .int .u32 (x / 10 ^ (9 * k) % 10 ^ (min 9 (L - 9 * k)) : Nat)) (he : e = .int .i64 ((L : Int) - 9 * (k + 1 : Nat))) : RdRel w0 x L o e w1 := by
  rw [limb_here x L k hx hk] at hu
  refine ⟨k + 1, he, by omega, xs ++ [_], own_more hown hu, hlow.snoc (Nat.mod_lt _ bas_pos), ?_, hbel⟩
  rw [ofL_snoc, hlen, hof, limb_mod]

theorem own_made {w : World} {e : TypeId} {k : IntKind} (cap : Nat) (hc : cap ≤ maxLen) : (w.alloc (.cells (cellsOf k (List.replicate cap 0)) e)).ownsRow w.heap.size e 1 (.slice (some ⟨w.heap.size, 0, none⟩) 0 cap) 0 (nums k []) :=
  ⟨rfl, .inr ⟨w.heap.size, cap, _, rfl, Nat.le_refl _, heap_alloc_new w _, Nat.zero_le _, hc, by simp [cellsOf], rfl⟩⟩
end Go.Proofs.YtemcdnppgnobmaaGreatDoor
