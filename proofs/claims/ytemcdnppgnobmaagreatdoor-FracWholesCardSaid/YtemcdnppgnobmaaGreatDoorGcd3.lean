/-
  The walks of frac's carried, topThree and leading.
  The walk of frac's leading.
  Plain numbers: Lehmer's steps of Euclid's algorithm. Nothing of any program stands here.
  The walk of frac's steps.
-/
import Derived.Test.YtemcdnppgnobmaaGreatDoorDig3
import Derived.Test.YtemcdnppgnobmaaGreatDoorShelf
set_option linter.unusedVariables false
namespace Go.Proofs.YtemcdnppgnobmaaGreatDoor
open Go.RowKit

theorem tmod_cases (s : Int) : (0 ≤ Int.tmod s 1000000000 ∧ Int.tmod s 1000000000 = s % 1000000000) ∨ (Int.tmod s 1000000000 < 0 ∧ Int.tmod s 1000000000 + 1000000000 = s % 1000000000) := by
  rw [Int.tmod_eq_emod]
  by_cases h : 0 ≤ s
  · rw [if_pos (Or.inl h)]; left; omega
  · by_cases h2 : s % 1000000000 = 0
    · rw [if_pos (Or.inr (Int.dvd_of_emod_eq_zero h2))]; left; omega
    · rw [if_neg (by
        intro hor
        rcases hor with h3 | h3
        · exact h h3
        · exact h2 (Int.emod_eq_zero_of_dvd h3))]
      right
      have : ((1000000000 : Int).natAbs : Int) = 1000000000 := rfl
      omega

def RetCar (s : Int) (w : World) (e : Ending) (w' : World) : Prop := e = .returned (.tuple #[.int .u32 (s % 1000000000), .int .i64 (s / 1000000000)]) ∧ w' = w

theorem carried_any (s : Int) (w : World) (h1 : -9000000000000000000 ≤ s) (h2 : s ≤ 9000000000000000000) :
    Calls Tryz.prog 90 #[.int .i64 s] w (RetCar s w) := by
  have hm := tmod_cases s
  have hq : (s - s % 1000000000).tdiv 1000000000 = s / 1000000000 := by
    have e : s - s % 1000000000 = 1000000000 * (s / 1000000000) := by omega
    rw [e, Int.mul_tdiv_cancel_left _ (by omega)]
  have Hq := Lib.hid hq
  clear hq
  rcases hm with ⟨h3, h4⟩ | ⟨h3, h4⟩
  · go_enter Tryz.func90, Tryz.ntmps90
    go_wp2
    go_ret2
    exact ⟨by rw [← Hq.out]; rfl, rfl⟩
  · go_enter Tryz.func90, Tryz.ntmps90
    go_wp2
    go_ret2
    exact ⟨by rw [← Hq.out]; rfl, rfl⟩

def two64 : Nat := 18446744073709551616
theorem two64_pos : 0 < two64 := by decide

theorem run_add64_call (x y : Nat) (w : World) :
    (callFunc 116 #[.int .u64 x, .int .u64 y, .int .u64 0]).run Tryz.prog w = .ok (.value (.tuple #[.int .u64 (((x + y) % two64 : Nat) : Int), .int .u64 (((x + y) / two64 : Nat) : Int)])) w := by
  rw [run_callFunc_extern (e := add64Entry) Tryz.func116 (by kernel_rfl) (by kernel_rfl) (by kernel_rfl) (by kernel_rfl), run_add64 _ _ _ (by omega) (by omega) (by omega) (by omega)]
  simp only [Result.andThen, Int.add_zero, two64]
  congr 4

theorem mul64_any (a : Nat) (z : Int) (w : World) (hz : z = (a : Nat)) (ha : a < two64) :
    Calls Tryz.prog 115 #[.int .u64 z, .int .u64 1000000000] w fun e w' => e = .returned (.tuple #[.int .u64 ((a * 1000000000 / two64 : Nat) : Int), .int .u64 ((a * 1000000000 % two64 : Nat) : Int)]) ∧ w' = w := by
  subst hz
  exact Tryz.bits_Mul64 a 1000000000 ha (by decide) w

/-- A number of two words. -/
def Words (v : Nat) (w : World) (e : Ending) (w' : World) : Prop :=
  e = .returned (.tuple #[.int .u64 ((v / two64 : Nat) : Int), .int .u64 ((v % two64 : Nat) : Int)]) ∧ Below w.heap.size w w'

theorem words_sum {V T a x0 hi lo cr lo' : Nat} (hT : 0 < T) (hV : V = a + x0) (h1 : a / T = hi) (h2 : a % T = lo) (h3 : (lo + x0) % T = lo') (h4 : (lo + x0) / T = cr) : V / T = hi + cr ∧ V % T = lo' := by
  subst hV h1 h2 h3 h4
  have e1 := Nat.div_add_mod a T
  have e2 : a + x0 = T * (a / T) + (a % T + x0) := by omega
  constructor
  · rw [e2, Nat.mul_add_div hT]
  · rw [e2, Nat.mul_add_mod]

def TopRel (w : World) (k : Nat) (l : List Nat) (i : Value) (wr : World) : Prop :=
  ∃ j xs, j ≤ 3 ∧ i = .int .i64 (j : Nat) ∧ Blk wr w.heap.size 145 (cellsOf .u64 xs) ∧ xs.length = 3 ∧ (∀ a, a < j → xs.getD a 0 = l.getD (k + a) 0) ∧ (∀ a, j ≤ a → xs.getD a 0 = 0) ∧ Below w.heap.size w wr

theorem getD_set_self (l : List Nat) (i x : Nat) (h : i < l.length) : (l.set i x).getD i 0 = x := by
  simp [List.getD_eq_getElem?_getD, List.getElem?_set_self h]
theorem getD_set_other (l : List Nat) (i j x : Nat) (h : i ≠ j) : (l.set i x).getD j 0 = l.getD j 0 := by
  simp [List.getD_eq_getElem?_getD, List.getElem?_set_ne h]

set_option maxRecDepth 100000 in
theorem topThree_any (A : Option Addr) (m c k : Nat) (l : List Nat) (w : World) (h : Sl .u32 w A m l) (hlow : Low l) (hm : m ≤ k + 3) (hk : k ≤ 10000000000) :
    Calls Tryz.prog 88 #[.slice A m c, .int .i64 ((k : Int) + 3)] w (Words ((l.getD (k + 2) 0 * bas + l.getD (k + 1) 0) * bas + l.getD k 0) w) := by
  have Hlen := Lib.hid h.len
  have hblk0 := Blk.new w 145 (cellsOf .u64 [0, 0, 0])
  have l2 : l.getD (k + 2) 0 < 1000000000 := hlow.get _
  have l1 : l.getD (k + 1) 0 < 1000000000 := hlow.get _
  have l0 : l.getD k 0 < 1000000000 := hlow.get _
  go_enter Tryz.func88, Tryz.ntmps88
  go_wp2
  go_loopw [11] (TopRel w k l) (fun i _ => 3 - (intOf i).toNat)
  case atStart =>
    exact ⟨0, [0, 0, 0], by omega, rfl, hblk0, rfl, fun a ha => by omega, fun a _ => by match a with | 0 => rfl | 1 => rfl | 2 => rfl | a + 3 => rfl, (Below.refl _ _).alloc (Nat.le_refl _) _⟩
  case round =>
    obtain ⟨j, xs, hj, rfl, hblk, hlen, hlo, hhi, hbel⟩ := hrel
    have Hxl := Lib.hid hlen
    have Hlo := Lib.hid hlo
    have Hhi := Lib.hid hhi
    clear hlen hlo hhi hblk0
    by_cases hj3 : j < 3
    · have hco := hblk.num j (by rw [Hxl.out]; exact hj3)
      have hfo := hblk.free j
      by_cases hin : k + j < m
      · obtain ⟨b, off, rfl, hbs, ha⟩ := Sl.at h (by omega)
        have hca := (hbel.cell (p := ⟨b, off + (k + j), none⟩) hbs).trans (ha (k + j) hin)
        have hxl : l.getD (k + j) 0 < 1000000000 := hlow.get _
        generalize hxa : l.getD (k + j) 0 = xa at *
        have Hxa := Lib.hid hxa
        clear hxa ha
        go_wp2
        go_roundw
        case rel =>
          refine ⟨j + 1, xs.set j xa, by omega, by go_num, hblk.put j xa rfl, by rw [List.length_set]; exact Hxl.out, fun a ha => ?_, fun a ha => ?_, hbel.setCell (Nat.le_refl _) _⟩
          · by_cases haj : a = j
            · subst haj; rw [getD_set_self _ _ _ (by rw [Hxl.out]; exact hj3), Hxa.out]
            · rw [getD_set_other _ _ _ _ (Ne.symm haj)]; exact Hlo.out a (by omega)
          · rw [getD_set_other _ _ _ _ (by omega)]; exact Hhi.out a (by omega)
        case measure => simp [intOf]; omega
      · go_wp2
        go_roundw
        case rel =>
          refine ⟨j + 1, xs, by omega, by go_num, hblk, Hxl.out, fun a ha => ?_, fun a ha => Hhi.out a (by omega), hbel⟩
          by_cases haj : a = j
          · subst haj
            rw [Hhi.out a (Nat.le_refl _), List.getD_eq_getElem?_getD, List.getElem?_eq_none (by rw [Hlen.out]; omega)]; rfl
          · exact Hlo.out a (by omega)
        case measure => simp [intOf]; omega
    · obtain rfl : j = 3 := by omega
      have g0 := hblk.num 0 (by rw [Hxl.out]; omega)
      have g1 := hblk.num 1 (by rw [Hxl.out]; omega)
      have g2 := hblk.num 2 (by rw [Hxl.out]; omega)
      rw [Hlo.out 0 (by omega)] at g0
      rw [Hlo.out 1 (by omega)] at g1
      rw [Hlo.out 2 (by omega)] at g2
      rw [Nat.add_zero] at g0
      generalize l.getD (k + 2) 0 = x2 at *
      generalize l.getD (k + 1) 0 = x1 at *
      generalize l.getD k 0 = x0 at *
      have hadd := run_add64_call
      go_wp2_with fail
      refine (mul64_any (x2 * 1000000000 + x1) _ wr (by omega) (by unfold two64; omega)).mono ?_
      rintro e w1 ⟨rfl, rfl⟩
      have hhi : (x2 * 1000000000 + x1) * 1000000000 / two64 ≤ 100000000 := by unfold two64; omega
      generalize h1 : (x2 * 1000000000 + x1) * 1000000000 / two64 = hi at *
      generalize h2 : (x2 * 1000000000 + x1) * 1000000000 % two64 = lo at *
      have hlo : lo < two64 := by rw [← h2]; exact Nat.mod_lt _ two64_pos
      have hcr : (lo + x0) / two64 ≤ 1 := by unfold two64 at *; omega
      have ha := hadd lo x0 w1
      generalize h3 : (lo + x0) % two64 = lo' at *
      generalize h4 : (lo + x0) / two64 = cr at *
      have Hsum := Lib.hid (words_sum (V := (x2 * bas + x1) * bas + x0) two64_pos (by unfold bas; rfl) h1 h2 h3 h4)
      clear h1 h2 h3 h4 hlo hadd
      go_wp2
      go_ret2
      rw [Words, Hsum.out.1, Hsum.out.2]
      exact ⟨rfl, hbel⟩

end Go.Proofs.YtemcdnppgnobmaaGreatDoor

namespace Go.Proofs.YtemcdnppgnobmaaGreatDoor
open Go.RowKit

/-- The first three digits of x, of which k more follow. -/
theorem top_digits {x k : Nat} (h : x < bas ^ (k + 3)) : ((toL x).getD (k + 2) 0 * bas + (toL x).getD (k + 1) 0) * bas + (toL x).getD k 0 = x / bas ^ k := by
  rw [getD_toL, getD_toL, getD_toL]
  have e1 : x / bas ^ (k + 1) = x / bas ^ k / bas := by rw [Nat.pow_succ, Nat.div_div_eq_div_mul]
  have e2 : x / bas ^ (k + 2) = x / bas ^ k / bas / bas := by rw [Nat.pow_succ, Nat.pow_succ, Nat.div_div_eq_div_mul, Nat.div_div_eq_div_mul, Nat.mul_assoc]
  have hT : x / bas ^ k < bas * bas * bas := by
    rw [Nat.div_lt_iff_lt_mul (Nat.pow_pos bas_pos), Nat.mul_comm]
    have : bas ^ (k + 3) = bas ^ k * (bas * bas * bas) := by rw [Nat.pow_succ, Nat.pow_succ, Nat.pow_succ]; simp only [Nat.mul_assoc]
    omega
  rw [e1, e2]
  generalize x / bas ^ k = T at *
  unfold bas at *
  omega

def RetLead (x y k : Nat) (w : World) (e : Ending) (w' : World) : Prop :=
  ∃ s : Nat, e = .returned (.tuple #[.int .i64 ((x / bas ^ k / 2 ^ s : Nat) : Int), .int .i64 ((y / bas ^ k / 2 ^ s : Nat) : Int)]) ∧ x / bas ^ k / 2 ^ s < 4611686018427387904 ∧ 0 < x / bas ^ k / 2 ^ s ∧ Below w.heap.size w w'

theorem bitLenAux_spec (f : Nat) : ∀ x, x < 2 ^ f → x < 2 ^ Lib.bitLenAux f x ∧ (0 < x → 2 ^ (Lib.bitLenAux f x - 1) ≤ x) ∧ (0 < x → 1 ≤ Lib.bitLenAux f x) := by
  induction f with
  | zero => intro x h; simp only [Nat.pow_zero] at h; obtain rfl : x = 0 := by omega
            simp [Lib.bitLenAux]
  | succ f ih =>
    intro x h
    unfold Lib.bitLenAux
    by_cases h0 : x = 0
    · subst h0; simp
    · rw [if_neg h0]
      rw [Nat.pow_succ] at h
      obtain ⟨h1, h2, h3⟩ := ih (x / 2) (by omega)
      have hz : x / 2 = 0 → Lib.bitLenAux f (x / 2) = 0 := by
        intro e; rw [e]; cases f <;> simp [Lib.bitLenAux]
      generalize Lib.bitLenAux f (x / 2) = n at *
      refine ⟨?_, fun _ => ?_, fun _ => by omega⟩
      · rw [Nat.add_comm, Nat.pow_succ]; omega
      · rw [Nat.add_sub_cancel_left]
        by_cases hx : 0 < x / 2
        · have a := h2 hx
          have b := h3 hx
          obtain ⟨m, rfl⟩ : ∃ m, n = m + 1 := ⟨n - 1, by omega⟩
          rw [Nat.add_sub_cancel] at a
          rw [Nat.pow_succ]; omega
        · obtain rfl : x = 1 := by omega
          have : n = 0 := hz (by omega)
          subst this; decide

theorem bitLen_spec {x : Nat} (h : x < 2 ^ 64) : x < 2 ^ Lib.bitLen x ∧ (0 < x → 2 ^ (Lib.bitLen x - 1) ≤ x) ∧ (0 < x → 1 ≤ Lib.bitLen x) := bitLenAux_spec 64 x h

theorem u64_or (a b : Nat) (ha : a < two64) (hb : b < two64) : bits .or .u64 (a : Int) (b : Int) = ((a ||| b : Nat) : Int) := by
  have hx : a ||| b < 2 ^ 64 := Nat.or_lt_two_pow ha hb
  have e : ∀ c : Nat, c < two64 → (BitVec.ofInt 64 (c : Int)).toNat = c := fun c hc => by
    rw [BitVec.ofInt_natCast, BitVec.toNat_ofNat]; exact Nat.mod_eq_of_lt hc
  show IntKind.u64.wrap ((BitVec.ofInt 64 (a : Int) ||| BitVec.ofInt 64 (b : Int)).toNat : Int) = _
  rw [BitVec.toNat_or, e a ha, e b hb]
  exact IntWalk.u64_in _ ⟨by omega, by omega⟩

/-- Two words cut to their first bits. -/
theorem joined {hi lo n : Nat} (hn : n ≤ 26) (hh : hi < 2 ^ n) (hl : lo < two64) :
    bits .or .u64 (IntKind.u64.wrap ((hi : Int) * 2 ^ (62 - n))) ((lo : Int) / 2 ^ (n + 2)) = (((hi * two64 + lo) / 2 ^ (n + 2) : Nat) : Int) ∧ (hi * two64 + lo) / 2 ^ (n + 2) < 4611686018427387904 := by
  have p1 : (2 : Nat) ^ (62 - n) * 2 ^ (n + 2) = two64 := by rw [← Nat.pow_add, show 62 - n + (n + 2) = 64 by omega]; rfl
  have p2 : (2 : Nat) ^ (62 - n) * 2 ^ n = 4611686018427387904 := by rw [← Nat.pow_add, show 62 - n + n = 62 by omega]
  have hp : 0 < (2 : Nat) ^ (n + 2) := Nat.pow_pos (by decide)
  have hb : lo / 2 ^ (n + 2) < 2 ^ (62 - n) := by rw [Nat.div_lt_iff_lt_mul hp, p1]; exact hl
  have ha : hi * 2 ^ (62 - n) + 2 ^ (62 - n) ≤ 4611686018427387904 := by
    have : (hi + 1) * 2 ^ (62 - n) ≤ 2 ^ n * 2 ^ (62 - n) := Nat.mul_le_mul_right _ hh
    rw [Nat.add_mul, Nat.one_mul, Nat.mul_comm (2 ^ n), p2] at this; exact this
  have eT : (hi * two64 + lo) / 2 ^ (n + 2) = hi * 2 ^ (62 - n) + lo / 2 ^ (n + 2) := by
    rw [← p1, ← Nat.mul_assoc, Nat.add_comm, Nat.add_mul_div_right _ _ hp, Nat.add_comm]
  have e1 : (hi : Int) * 2 ^ (62 - n) = ((hi * 2 ^ (62 - n) : Nat) : Int) := by simp
  have e2 : (lo : Int) / 2 ^ (n + 2) = ((lo / 2 ^ (n + 2) : Nat) : Int) := by simp
  rw [eT]
  generalize lo / 2 ^ (n + 2) = b at *
  have hor : hi * 2 ^ (62 - n) ||| b = hi * 2 ^ (62 - n) + b := by
    rw [Nat.mul_comm]; exact (Nat.two_pow_add_eq_or_of_lt hb hi).symm
  generalize hq : (2 : Nat) ^ (62 - n) = q at *
  constructor
  · rw [e1, e2, IntWalk.u64_in _ ⟨by omega, by omega⟩, u64_or _ _ (by unfold two64; omega) (by unfold two64; omega), hor]
  · omega

theorem or_none {x s : Nat} (h : x < two64) : bits .or .u64 0 ((x : Int) / 2 ^ s) = (x : Int) / 2 ^ s := by
  have e : (x : Int) / 2 ^ s = ((x / 2 ^ s : Nat) : Int) := by simp
  rw [e]
  have := u64_or 0 (x / 2 ^ s) two64_pos (Nat.lt_of_le_of_lt (Nat.div_le_self _ _) h)
  rwa [Nat.zero_or] at this

theorem short_lead {T n : Nat} (hn : n ≤ 64) (h : T < 2 ^ n) (hT : 1000000000000000000 ≤ T) : T / 2 ^ (max 0 ((n : Int) - 62)).toNat < 4611686018427387904 ∧ 0 < T / 2 ^ (max 0 ((n : Int) - 62)).toNat := by
  have hs : n ≤ (max 0 ((n : Int) - 62)).toNat + 62 ∧ (max 0 ((n : Int) - 62)).toNat ≤ 2 := by omega
  generalize (max 0 ((n : Int) - 62)).toNat = s at *
  have hp : 0 < (2 : Nat) ^ s := Nat.pow_pos (by decide)
  constructor
  · rw [Nat.div_lt_iff_lt_mul hp]
    refine Nat.lt_of_lt_of_le h ?_
    have : (2 : Nat) ^ n ≤ 2 ^ (62 + s) := Nat.pow_le_pow_right (by decide) (by omega)
    rw [Nat.pow_add] at this
    exact this
  · refine Nat.div_pos ?_ hp
    have : (2 : Nat) ^ s ≤ 2 ^ 2 := Nat.pow_le_pow_right (by decide) hs.2
    omega

theorem ret_ii {a b c d : Int} (h : a = b) (k : c = d) : Ending.returned (.tuple #[.int .i64 a, .int .i64 c]) = .returned (.tuple #[.int .i64 b, .int .i64 d]) := by rw [h, k]
theorem wrap64_nat {n : Nat} (h : n < 4611686018427387904) : wrap64 ((n : Nat) : Int) = n := IntWalk.wrap64_in _ ⟨by omega, by omega⟩
theorem lead_wrap {T n : Nat} (h : T / 2 ^ n < 4611686018427387904) : wrap64 ((T : Int) / 2 ^ n) = ((T / 2 ^ n : Nat) : Int) := by
  have e : (T : Int) / 2 ^ n = ((T / 2 ^ n : Nat) : Int) := by simp
  rw [e]; exact wrap64_nat h

set_option maxRecDepth 100000 in
theorem leading_any (A B : Option Addr) (m c d k x y : Nat) (w : World) (h : Dg w A (k + 3) x) (hb : Dg w B m y) (hm : m ≤ k + 3) (hk : k ≤ 10000000000) (hyx : y ≤ x) :
    Calls Tryz.prog 65 #[.slice A (k + 3) c, .slice B m d] w (RetLead x y k w) := by
  have t1 := topThree_any A (k + 3) c k (toL x) w h (low_toL x) (by omega) hk
  have hx3 := lt_pow_limbs x
  rw [h.len] at hx3
  rw [top_digits hx3] at t1
  have t2 := fun w' (hb' : Below w.heap.size w w') => topThree_any B m d k (toL y) w' (Sl.below hb hb') (low_toL y) hm hk
  rw [top_digits (Nat.lt_of_le_of_lt hyx hx3)] at t2
  have Ht1 := Lib.hid t1
  have Ht2 := Lib.hid t2
  clear t1 t2
  have hUT : y / bas ^ k ≤ x / bas ^ k := Nat.div_le_div_right hyx
  have hTb : x / bas ^ k < 1000000000000000000000000000 := by
    rw [Nat.div_lt_iff_lt_mul (Nat.pow_pos bas_pos)]
    have : bas ^ (k + 3) = bas ^ 3 * bas ^ k := by rw [← Nat.pow_add, Nat.add_comm]
    rw [this] at hx3
    exact hx3
  have hT1 : 1000000000000000000 ≤ x / bas ^ k := by
    rw [Nat.le_div_iff_mul_le (Nat.pow_pos bas_pos)]
    have h1 := pow_limbs_le (n := x) (by rcases Nat.eq_zero_or_pos x with e | e
                                         · have := h.len; rw [e, limbs_zero] at this; omega
                                         · exact e)
    rw [h.len, show k + 3 - 1 = 2 + k by omega, Nat.pow_add] at h1
    exact h1
  unfold RetLead
  generalize x / bas ^ k = T at *
  generalize y / bas ^ k = U at *
  clear hx3
  go_enter Tryz.func65, Tryz.ntmps65
  go_wp2_with fail
  refine (Ht1.out).mono ?_
  rintro e w1 ⟨rfl, hb1⟩
  generalize hhi : T / two64 = hi at *
  generalize hlo : T % two64 = lo at *
  have Hhi := Lib.hid hhi
  have Hlo := Lib.hid hlo
  clear hhi hlo
  by_cases h0 : hi = 0
  · subst h0
    have hlo : lo < two64 := by rw [← Hlo.out]; exact Nat.mod_lt _ two64_pos
    have hTe : T = lo := by
      have e := Nat.div_add_mod T two64
      rw [Hhi.out, Hlo.out, Nat.mul_zero, Nat.zero_add] at e
      exact e.symm
    subst hTe
    have hUl : U < two64 := Nat.lt_of_le_of_lt hUT hlo
    have hU0 : U / two64 = 0 := Nat.div_eq_of_lt hUl
    have hU1 : U % two64 = U := Nat.mod_eq_of_lt hUl
    have HU0 := Lib.hid hU0
    have HU1 := Lib.hid hU1
    obtain ⟨hb1', hb2', hb3'⟩ := bitLen_spec (x := T) hlo
    have hb2 := hb2' (by omega)
    clear hb2' hb3' hU0 hU1
    go_wp2_with fail
    refine (Tryz.bits_Len64 (T : Int) w1 (by omega) (by unfold two64 at hlo; omega)).mono ?_
    rintro e w2 ⟨rfl, rfl⟩
    rw [Int.toNat_natCast]
    generalize Lib.bitLen T = n at *
    have hn : n ≤ 64 := by
      rcases Nat.lt_or_ge 64 n with h27 | h27
      · have : (2 : Nat) ^ 64 ≤ 2 ^ (n - 1) := Nat.pow_le_pow_right (by decide) (by omega)
        unfold two64 at hlo
        omega
      · exact h27
    have hlu : U < two64 ∧ T < two64 := ⟨hUl, hlo⟩
    have Hlu := Lib.hid hlu
    clear hlo hUl hTb hlu
    have Hs := Lib.hid (short_lead (T := T) (n := n) hn hb1' hT1)
    clear hb1' hb2 hT1
    go_wp2_with fail
    go_quiet (fail)
    go_wp2_with fail
    rw [or_none Hlu.out.2]
    have hb1n := below_drewN hb1 nq
    refine (Ht2.out _ hb1n).mono ?_
    rintro e w3 ⟨rfl, hb3⟩
    rw [HU0.out, HU1.out]
    go_wp2_with fail
    go_quiet (fail)
    go_wp2_with fail
    go_ret2
    generalize (max 0 ((n : Int) - 62)).toNat = s at *
    have HUs : U / 2 ^ s < 4611686018427387904 := Nat.lt_of_le_of_lt (Nat.div_le_div_right hUT) Hs.out.1
    refine ⟨s, ?_, Hs.out.1, Hs.out.2, below_drewN (hb1n.trans (hb3.mono hb1n.size)) _⟩
    exact ret_ii (lead_wrap Hs.out.1) (by rw [or_none Hlu.out.1]; exact lead_wrap HUs)
  · have hp : 0 < hi := by omega
    have hT : T < 1000000000000000000000000000 := hTb
    have hh : hi ≤ 54210108 := by have := Hhi.out; unfold two64 at this; omega
    have hlo : lo < two64 := by rw [← Hlo.out]; exact Nat.mod_lt _ two64_pos
    have hTe : T = hi * two64 + lo := by rw [← Hhi.out, ← Hlo.out, Nat.mul_comm]; exact (Nat.div_add_mod _ _).symm
    obtain ⟨hb1', hb2', hb3'⟩ := bitLen_spec (x := hi) (by omega)
    have hb2 := hb2' hp
    have hb3 := hb3' hp
    clear hb2' hb3' hT
    go_wp2_with fail
    refine (Tryz.bits_Len64 (hi : Int) w1 (by omega) (by omega)).mono ?_
    rintro e w2 ⟨rfl, rfl⟩
    rw [Int.toNat_natCast]
    generalize Lib.bitLen hi = n at *
    have hn : n ≤ 26 := by
      rcases Nat.lt_or_ge 26 n with h27 | h27
      · have : (2 : Nat) ^ 26 ≤ 2 ^ (n - 1) := Nat.pow_le_pow_right (by decide) (by omega)
        omega
      · exact h27
    have J := joined (lo := lo) hn hb1' hlo
    rw [← hTe] at J
    have HJ := Lib.hid J
    have HTe := Lib.hid hTe
    have Hhn := Lib.hid hb1'
    have Hn2 := Lib.hid hb2
    clear J hTe hb1' hb2 hlo hTb
    go_wp2_with fail
    go_quiet (fail)
    go_wp2_with fail
    rw [HJ.out.1]
    have hb1n := below_drewN hb1 nq
    refine (Ht2.out _ hb1n).mono ?_
    rintro e w3 ⟨rfl, hb3⟩
    generalize hhi' : U / two64 = hi' at *
    generalize hlo' : U % two64 = lo' at *
    have hlol : lo' < two64 := by rw [← hlo']; exact Nat.mod_lt _ two64_pos
    have hUe : U = hi' * two64 + lo' := by rw [← hhi', ← hlo', Nat.mul_comm]; exact (Nat.div_add_mod _ _).symm
    have hhle : hi' ≤ hi := by rw [← hhi', ← Hhi.out]; exact Nat.div_le_div_right hUT
    have J' := joined (lo := lo') hn (Nat.lt_of_le_of_lt hhle Hhn.out) hlol
    rw [← hUe] at J'
    have HJ' := Lib.hid J'
    clear hhi' hlo' hlol hUe J'
    go_wp2_with fail
    go_quiet (fail)
    go_wp2_with fail
    go_ret2
    refine ⟨n + 2, ?_, HJ.out.2, Nat.div_pos (by have : (2 : Nat) ^ (n + 2) ≤ 2 ^ 28 := Nat.pow_le_pow_right (by decide) (by omega)
                                                 omega) (Nat.pow_pos (by decide)), below_drewN (hb1n.trans (hb3.mono hb1n.size)) _⟩
    exact ret_ii (lead_wrap HJ.out.2) (by rw [HJ'.out.1]; exact wrap64_nat HJ'.out.2)

end Go.Proofs.YtemcdnppgnobmaaGreatDoor

namespace Go.Proofs.YtemcdnppgnobmaaGreatDoor

/-- What holds of the multiples m = (aa, ab, ba, bb) and the rests X, Y that were made of the first digits x0, y0. -/
structure Lehm (x0 y0 : Nat) (aa ab ba bb X Y : Int) : Prop where
  eX : X = aa * x0 + ab * y0
  eY : Y = ba * x0 + bb * y0
  sgn : (0 ≤ aa ∧ ab ≤ 0 ∧ ba ≤ 0 ∧ 0 ≤ bb ∧ aa * bb - ab * ba = 1) ∨ (aa ≤ 0 ∧ 0 ≤ ab ∧ 0 ≤ ba ∧ bb ≤ 0 ∧ aa * bb - ab * ba = -1)
  nX : 0 ≤ X
  nY : 0 ≤ Y
  p1 : 0 ≤ X + aa
  p2 : 0 ≤ X + ab
  p3 : 0 ≤ Y + ba
  p4 : 0 ≤ Y + bb
  b1 : -2147483648 ≤ aa ∧ aa ≤ 2147483648
  b2 : -2147483648 ≤ ab ∧ ab ≤ 2147483648
  b3 : -2147483648 ≤ ba ∧ ba ≤ 2147483648
  b4 : -2147483648 ≤ bb ∧ bb ≤ 2147483648
  lX : X ≤ x0
  lY : Y ≤ x0
  yx : y0 ≤ x0
  all : ∀ M a b : Nat, 0 < M → a / M = x0 → b / M = y0 → b ≤ a → 0 ≤ ba * a + bb * b ∧ ba * a + bb * b ≤ aa * a + ab * b ∧ aa * a + ab * b ≤ a ∧ Int.gcd (aa * a + ab * b) (ba * a + bb * b) = Nat.gcd a b ∧ aa * a + ab * b + (ba * a + bb * b) ≤ a + b

theorem Lehm.start (x0 y0 : Nat) (hx : 0 < x0) (h : y0 ≤ x0) : Lehm x0 y0 1 0 0 1 x0 y0 where
  eX := by omega
  eY := by omega
  sgn := Or.inl ⟨by omega, by omega, by omega, by omega, by omega⟩
  nX := by omega
  nY := by omega
  p1 := by omega
  p2 := by omega
  p3 := by omega
  p4 := by omega
  b1 := by omega
  b2 := by omega
  b3 := by omega
  b4 := by omega
  lX := by omega
  lY := by omega
  yx := h
  all := fun M a b _ _ _ hba => by
    have e1 : (1 : Int) * a + 0 * b = a := by omega
    have e2 : (0 : Int) * a + 1 * b = b := by omega
    rw [e1, e2]
    exact ⟨by omega, by omega, by omega, rfl, by omega⟩

theorem sq_bound {n x0 X : Int} (h0 : 0 ≤ n) (h1 : n ≤ X) (h2 : n * X ≤ x0) (hx : x0 < 4611686018427387904) : n ≤ 2147483648 := by
  by_cases h : 2147483648 < n
  · exfalso
    have a : 2147483648 * 2147483648 ≤ n * X := Int.mul_le_mul (by omega) (by omega) (by omega) (by omega)
    omega
  · omega

theorem floor_lt {a b q : Int} (hb : 0 < b) (h : q = a / b) : q * b ≤ a ∧ a < (q + 1) * b ∧ a - q * b = a % b := by
  subst h
  have e := Int.mul_ediv_add_emod a b
  have l := Int.emod_lt_of_pos a hb
  have n := Int.emod_nonneg a (show b ≠ 0 by omega)
  have c : a / b * b = b * (a / b) := Int.mul_comm _ _
  rw [Int.add_mul]
  omega

/-- What the true numbers do, in a step, where one quotient serves. -/
theorem true_step {A B : Int} {q : Int} (h1 : q * B ≤ A) (h2 : A < (q + 1) * B) {a : Int} (hA : A ≤ a) (hBA : B ≤ A) : 0 ≤ A - q * B ∧ A - q * B ≤ B ∧ B ≤ a ∧ B + (A - q * B) < A + B ∧ Int.gcd B (A - q * B) = Int.gcd A B := by
  rw [Int.add_mul] at h2
  refine ⟨by omega, by omega, by omega, by omega, ?_⟩
  rw [Int.gcd_comm A B]
  have : A - q * B = A + (-q) * B := by rw [Int.neg_mul]; rfl
  rw [this]
  exact Int.gcd_add_mul_right_right B A (-q)

/-- The bounds of a true number, from the first digits: e, f are the multiples; the one that is above 0 counts for a whole M. -/
theorem true_range {x0 y0 M a b : Nat} {e f X : Int} (hM : 0 < M) (ha : a / M = x0) (hb : b / M = y0) (hX : X = e * x0 + f * y0) (he : 0 ≤ e) (hf : f ≤ 0) :
    (X + f) * M ≤ e * a + f * b ∧ e * a + f * b ≤ (X + e) * M := by
  have a1 := Nat.div_add_mod a M
  have b1 := Nat.div_add_mod b M
  have a2 := Nat.mod_lt a hM
  have b2 := Nat.mod_lt b hM
  rw [ha] at a1
  rw [hb] at b1
  generalize a % M = α at *
  generalize b % M = β at *
  have ea : (a : Int) = M * x0 + α := by rw [← a1]; simp
  have eb : (b : Int) = M * y0 + β := by rw [← b1]; simp
  have h1 : e * a + f * b = X * M + (e * α + f * β) := by
    rw [ea, eb, hX, Int.mul_add, Int.mul_add, Int.add_mul]
    have c1 : e * (M * x0) = e * x0 * M := by rw [Int.mul_comm (M : Int), Int.mul_assoc]
    have c2 : f * (M * y0) = f * y0 * M := by rw [Int.mul_comm (M : Int), Int.mul_assoc]
    omega
  have h2 : 0 ≤ e * α := Int.mul_nonneg he (by omega)
  have h3 : e * α ≤ e * M := Int.mul_le_mul_of_nonneg_left (by omega) he
  have h4 : f * β ≤ 0 := Int.mul_nonpos_of_nonpos_of_nonneg hf (by omega)
  have h5 : f * M ≤ f * β := Int.mul_le_mul_of_nonpos_left hf (by omega)
  rw [h1, Int.add_mul, Int.add_mul]
  omega

theorem true_range' {x0 y0 M a b : Nat} {e f X : Int} (hM : 0 < M) (ha : a / M = x0) (hb : b / M = y0) (hX : X = e * x0 + f * y0) (he : e ≤ 0) (hf : 0 ≤ f) :
    (X + e) * M ≤ e * a + f * b ∧ e * a + f * b ≤ (X + f) * M := by
  have := true_range (x0 := y0) (y0 := x0) (a := b) (b := a) (e := f) (f := e) (X := X) hM hb ha (by omega) hf he
  omega

/-- One quotient lies between two. -/
theorem between {A B q lo hi u v : Int} {M : Nat} (hM : 0 < M) (hq : 0 ≤ q) (h1 : q * v ≤ lo) (h2 : lo * M ≤ A) (h3 : B ≤ v * M) (h4 : hi < (q + 1) * u) (h5 : A ≤ hi * M) (h6 : u * M ≤ B) : q * B ≤ A ∧ A < (q + 1) * B := by
  constructor
  · calc q * B ≤ q * (v * M) := Int.mul_le_mul_of_nonneg_left h3 hq
      _ = q * v * M := by rw [Int.mul_assoc]
      _ ≤ lo * M := Int.mul_le_mul_of_nonneg_right h1 (by omega)
      _ ≤ A := h2
  · have a1 : (hi + 1) * M ≤ (q + 1) * u * M := Int.mul_le_mul_of_nonneg_right h4 (by omega)
    have a2 : (q + 1) * (u * M) ≤ (q + 1) * B := Int.mul_le_mul_of_nonneg_left h6 (by omega)
    rw [← Int.mul_assoc] at a2
    rw [Int.add_mul, Int.one_mul] at a1
    omega

/-- The products of the multiples and the rests, where the determinant is 1: the first digits. -/
theorem det_back {x0 y0 : Int} {aa ab ba bb X Y : Int} (eX : X = aa * x0 + ab * y0) (eY : Y = ba * x0 + bb * y0) : bb * X - ab * Y = (aa * bb - ab * ba) * x0 ∧ aa * Y - ba * X = (aa * bb - ab * ba) * y0 := by
  subst eX eY
  simp only [Int.mul_add, Int.sub_mul, Int.mul_assoc]
  have c1 : bb * (aa * x0) = aa * (bb * x0) := Int.mul_left_comm ..
  have c2 : bb * (ab * y0) = ab * (bb * y0) := Int.mul_left_comm ..
  have c3 : ba * (aa * x0) = aa * (ba * x0) := Int.mul_left_comm ..
  have c4 : ba * (ab * y0) = ab * (ba * y0) := Int.mul_left_comm ..
  omega

/-- The true numbers have become less. -/
def Strict (x0 y0 : Nat) (aa ab ba bb : Int) : Prop := ∀ M a b : Nat, 0 < M → a / M = x0 → b / M = y0 → b ≤ a → aa * a + ab * b + (ba * a + bb * b) < a + b

theorem Lehm.next {x0 y0 : Nat} {aa ab ba bb X Y q : Int} (h : Lehm x0 y0 aa ab ba bb X Y) (hx0 : x0 < 4611686018427387904) (h3 : Y + ba ≠ 0) (h4 : Y + bb ≠ 0)
    (hq1 : q = (X + aa) / (Y + ba)) (hq2 : q = (X + ab) / (Y + bb)) : Lehm x0 y0 ba bb (aa - q * ba) (ab - q * bb) Y (X - q * Y) ∧ Strict x0 y0 ba bb (aa - q * ba) (ab - q * bb) ∧ X - q * Y < Y := by
  have p3 : 0 < Y + ba := by have := h.p3; omega
  have p4 : 0 < Y + bb := by have := h.p4; omega
  obtain ⟨f1, f2, f3⟩ := floor_lt p3 hq1
  obtain ⟨g1, g2, g3⟩ := floor_lt p4 hq2
  have hq : 0 ≤ q := by rw [hq1]; exact Int.ediv_nonneg h.p1 (by omega)
  have m1 := Int.emod_nonneg (X + aa) (show Y + ba ≠ 0 from h3)
  have m2 := Int.emod_lt_of_pos (X + aa) p3
  have m3 := Int.emod_nonneg (X + ab) (show Y + bb ≠ 0 from h4)
  have m4 := Int.emod_lt_of_pos (X + ab) p4
  rw [← f3] at m1 m2
  rw [← g3] at m3 m4
  have e1 : X + aa - q * (Y + ba) = X - q * Y + (aa - q * ba) := by rw [Int.mul_add]; omega
  have e2 : X + ab - q * (Y + bb) = X - q * Y + (ab - q * bb) := by rw [Int.mul_add]; omega
  rw [e1] at m1 m2
  rw [e2] at m3 m4
  have hX' := h.lX
  have hyx := h.yx
  have eX' : (X - q * Y) = (aa - q * ba) * x0 + (ab - q * bb) * y0 := by
    rw [h.eX, h.eY, Int.mul_add, Int.sub_mul, Int.sub_mul, Int.mul_assoc, Int.mul_assoc]; omega
  have hall : ∀ M a b : Nat, 0 < M → a / M = x0 → b / M = y0 → b ≤ a → 0 ≤ (aa - q * ba) * a + (ab - q * bb) * b ∧ (aa - q * ba) * a + (ab - q * bb) * b ≤ ba * a + bb * b ∧ ba * a + bb * b ≤ a ∧ Int.gcd (ba * a + bb * b) ((aa - q * ba) * a + (ab - q * bb) * b) = Nat.gcd a b ∧ ba * a + bb * b + ((aa - q * ba) * a + (ab - q * bb) * b) < a + b := by
    intro M a b hM ha hb hba
    obtain ⟨t1, t2, t3, t4, t5⟩ := h.all M a b hM ha hb hba
    have eB : (aa - q * ba) * a + (ab - q * bb) * b = (aa * a + ab * b) - q * (ba * a + bb * b) := by
      rw [Int.mul_add, Int.sub_mul, Int.sub_mul, Int.mul_assoc, Int.mul_assoc]; omega
    rw [eB]
    have hb : q * (ba * a + bb * b) ≤ aa * a + ab * b ∧ aa * a + ab * b < (q + 1) * (ba * a + bb * b) := by
      rcases h.sgn with ⟨s1, s2, s3, s4, _⟩ | ⟨s1, s2, s3, s4, _⟩
      · obtain ⟨r1, r2⟩ := true_range hM ha hb h.eX s1 s2
        obtain ⟨r3, r4⟩ := true_range' hM ha hb h.eY s3 s4
        exact between hM hq g1 r1 r4 f2 r2 r3
      · obtain ⟨r1, r2⟩ := true_range' hM ha hb h.eX s1 s2
        obtain ⟨r3, r4⟩ := true_range hM ha hb h.eY s3 s4
        exact between hM hq f1 r1 r4 g2 r2 r3
    obtain ⟨v1, v2, v3, v4, v5⟩ := true_step hb.1 hb.2 t3 t2
    rw [t4] at v5
    exact ⟨v1, v2, v3, v5, by omega⟩
  have hsgn : (0 ≤ ba ∧ bb ≤ 0 ∧ aa - q * ba ≤ 0 ∧ 0 ≤ ab - q * bb ∧ ba * (ab - q * bb) - bb * (aa - q * ba) = 1) ∨ (ba ≤ 0 ∧ 0 ≤ bb ∧ 0 ≤ aa - q * ba ∧ ab - q * bb ≤ 0 ∧ ba * (ab - q * bb) - bb * (aa - q * ba) = -1) := by
    have ed : ba * (ab - q * bb) - bb * (aa - q * ba) = -(aa * bb - ab * ba) := by
      rw [Int.mul_sub, Int.mul_sub]
      have c1 : ba * (q * bb) = bb * (q * ba) := by rw [Int.mul_left_comm, Int.mul_left_comm bb, Int.mul_comm ba bb]
      have c2 : ba * ab = ab * ba := Int.mul_comm ..
      have c3 : bb * aa = aa * bb := Int.mul_comm ..
      omega
    rcases h.sgn with ⟨s1, s2, s3, s4, s5⟩ | ⟨s1, s2, s3, s4, s5⟩
    · right
      have c1 : q * ba ≤ 0 := Int.mul_nonpos_of_nonneg_of_nonpos hq s3
      have c2 : 0 ≤ q * bb := Int.mul_nonneg hq s4
      exact ⟨s3, s4, by omega, by omega, by rw [ed, s5]⟩
    · left
      have c1 : 0 ≤ q * ba := Int.mul_nonneg hq s3
      have c2 : q * bb ≤ 0 := Int.mul_nonpos_of_nonneg_of_nonpos hq s4
      exact ⟨s3, s4, by omega, by omega, by rw [ed, s5]; rfl⟩
  generalize aa - q * ba = ba' at *
  generalize ab - q * bb = bb' at *
  generalize X - q * Y = Y' at *
  have hY' : 0 ≤ Y' := by rcases hsgn with ⟨_, _, s, _⟩ | ⟨_, _, _, s, _⟩ <;> omega
  have hY'Y : Y' < Y ∧ -Y ≤ ba' ∧ ba' ≤ Y ∧ -Y ≤ bb' ∧ bb' ≤ Y := by
    rcases hsgn with ⟨s1, s2, s3, s4, _⟩ | ⟨s1, s2, s3, s4, _⟩ <;> omega
  have hb := det_back (x0 := (x0 : Int)) (y0 := (y0 : Int)) h.eY eX'
  have hlY := h.lY
  have hbnd : (-2147483648 ≤ ba' ∧ ba' ≤ 2147483648) ∧ (-2147483648 ≤ bb' ∧ bb' ≤ 2147483648) := by
    rcases hsgn with ⟨s1, s2, s3, s4, s5⟩ | ⟨s1, s2, s3, s4, s5⟩
    · rw [s5, Int.one_mul, Int.one_mul] at hb
      have c1 : bb * Y' ≤ 0 := Int.mul_nonpos_of_nonpos_of_nonneg s2 hY'
      have c2 : 0 ≤ ba * Y' := Int.mul_nonneg s1 hY'
      have b1 := sq_bound (n := bb') (x0 := x0) s4 hY'Y.2.2.2.2 (by omega) (by omega)
      have b2 := sq_bound (n := -ba') (x0 := x0) (X := Y) (by omega) (by omega) (by rw [Int.neg_mul]; omega) (by omega)
      omega
    · rw [s5, Int.neg_mul, Int.neg_mul, Int.one_mul, Int.one_mul] at hb
      have c1 : 0 ≤ bb * Y' := Int.mul_nonneg s2 hY'
      have c2 : ba * Y' ≤ 0 := Int.mul_nonpos_of_nonpos_of_nonneg s1 hY'
      have b1 := sq_bound (n := -bb') (x0 := x0) (X := Y) (by omega) (by omega) (by rw [Int.neg_mul]; omega) (by omega)
      have b2 := sq_bound (n := ba') (x0 := x0) s3 hY'Y.2.2.1 (by omega) (by omega)
      omega
  refine ⟨⟨h.eY, eX', hsgn, h.nY, hY', by omega, by omega, m1, m3, h.b3, h.b4, hbnd.1, hbnd.2, hlY, by omega, hyx, fun M a b hM ha hb hba => ?_⟩, fun M a b hM ha hb hba => (hall M a b hM ha hb hba).2.2.2.2, hY'Y.1⟩
  obtain ⟨v1, v2, v3, v4, v5⟩ := hall M a b hM ha hb hba
  exact ⟨v1, v2, v3, v4, by omega⟩

end Go.Proofs.YtemcdnppgnobmaaGreatDoor

namespace Go.Proofs.YtemcdnppgnobmaaGreatDoor
open Go.RowKit

def fourOf (aa ab ba bb : Int) : Array Value := #[.int .i64 aa, .int .i64 ab, .int .i64 ba, .int .i64 bb]

def StepRel (w : World) (x0 y0 : Nat) (xv yv : Value) (wr : World) : Prop :=
  ∃ aa ab ba bb X Y, xv = .int .i64 X ∧ yv = .int .i64 Y ∧ Blk wr w.heap.size 92 (fourOf 0 0 0 0) ∧ Blk wr (w.heap.size + 1) 92 (fourOf aa ab ba bb) ∧ Lehm x0 y0 aa ab ba bb X Y ∧ (ab = 0 ∨ Strict x0 y0 aa ab ba bb) ∧ Below w.heap.size w wr

def RetSteps (x0 y0 : Nat) (w : World) (e : Ending) (w' : World) : Prop :=
  ∃ aa ab ba bb X Y, e = .returned (.tuple #[.agg #[.int .i64 aa, .int .i64 ab, .int .i64 ba, .int .i64 bb], .bool (ab != 0)]) ∧ Lehm x0 y0 aa ab ba bb X Y ∧ (ab = 0 ∨ Strict x0 y0 aa ab ba bb) ∧ Below w.heap.size w w'

set_option maxRecDepth 100000 in
set_option maxHeartbeats 800000 in
theorem steps_any (x0 y0 : Nat) (w : World) (hx : 0 < x0) (hx0 : x0 < 4611686018427387904) (hyx : y0 ≤ x0) :
    Calls Tryz.prog 66 #[.int .i64 x0, .int .i64 y0] w (RetSteps x0 y0 w) := by
  go_enter Tryz.func66, Tryz.ntmps66
  go_wp2
  go_loopw [0, 1] (StepRel w x0 y0) (fun _ y _ => (intOf y).toNat)
  case atStart =>
    refine ⟨1, 0, 0, 1, x0, y0, rfl, rfl, (Blk.new w 92 (fourOf 0 0 0 0)).below ((Below.refl _ _).alloc (Nat.le_refl _) _) (Blk.new w _ _).lt, ?_, Lehm.start x0 y0 hx hyx, Or.inl rfl, ((Below.refl _ _).alloc (Nat.le_refl _) _).alloc (by simp) _⟩
    have := Blk.new (w.alloc (.cells (fourOf 0 0 0 0) 92)) 92 (fourOf 1 0 0 1)
    simpa [fourOf] using this
  case round =>
    obtain ⟨aa, ab, ba, bb, X, Y, rfl, rfl, hres, hblk, hL, hstr, hbel⟩ := hrel
    have c0 := hblk.cell 0
    have c1 := hblk.cell 1
    have c2 := hblk.cell 2
    have c3 := hblk.cell 3
    have f0 := hblk.free 0
    have f1 := hblk.free 1
    have f2 := hblk.free 2
    have f3 := hblk.free 3
    simp only [fourOf] at c0 c1 c2 c3
    have d0 := hres.cell 0
    have d1 := hres.cell 1
    have d2 := hres.cell 2
    have d3 := hres.cell 3
    have e0 := hres.free 0
    have e1 := hres.free 1
    have e2 := hres.free 2
    have e3 := hres.free 3
    simp only [fourOf] at d0 d1 d2 d3
    obtain ⟨b1l, b1u⟩ := hL.b1
    obtain ⟨b2l, b2u⟩ := hL.b2
    obtain ⟨b3l, b3u⟩ := hL.b3
    obtain ⟨b4l, b4u⟩ := hL.b4
    have hlX := hL.lX
    have hlY := hL.lY
    have hp1 := hL.p1
    have hp2 := hL.p2
    have hp3 := hL.p3
    have hp4 := hL.p4
    have hnX := hL.nX
    have hnY := hL.nY
    by_cases h3 : Y + ba = 0
    · have hb3 : (Y + ba != 0) = false := by rw [bne_eq_false_iff_eq]; exact h3
      have H3 := Lib.hid h3
      clear h3
      go_wp2_with fail
      go_region
      all_goals (try go_wp2_with fail)
      all_goals
        refine bodyPost_ret (v := .tuple #[.agg #[.int .i64 aa, .int .i64 ab, .int .i64 ba, .int .i64 bb], .bool (ab != 0)]) (by simp [results, Tryz.results66, go_sem, d0, d1, d2, d3]) rfl ⟨aa, ab, ba, bb, X, Y, rfl, hL, hstr, ?_⟩
        exact ((((hbel.setCell (p := ⟨w.heap.size, 0, none⟩) (Nat.le_refl _) _).setCell (p := ⟨w.heap.size, 1, none⟩) (Nat.le_refl _) _).setCell (p := ⟨w.heap.size, 2, none⟩) (Nat.le_refl _) _).setCell (p := ⟨w.heap.size, 3, none⟩) (Nat.le_refl _) _).drew
    · have hb3 : (Y + ba != 0) = true := by rw [bne_iff_ne]; exact h3
      have hp3' : 1 ≤ Y + ba := by omega
      by_cases h4 : Y + bb = 0
      · have hb4 : (Y + bb != 0) = false := by rw [bne_eq_false_iff_eq]; exact h4
        have H4 := Lib.hid h4
        clear h4
        go_wp2_with fail
        go_region
        all_goals (try go_wp2_with fail)
        all_goals
          refine bodyPost_ret (v := .tuple #[.agg #[.int .i64 aa, .int .i64 ab, .int .i64 ba, .int .i64 bb], .bool (ab != 0)]) (by simp [results, Tryz.results66, go_sem, d0, d1, d2, d3]) rfl ⟨aa, ab, ba, bb, X, Y, rfl, hL, hstr, ?_⟩
          exact ((((hbel.setCell (p := ⟨w.heap.size, 0, none⟩) (Nat.le_refl _) _).setCell (p := ⟨w.heap.size, 1, none⟩) (Nat.le_refl _) _).setCell (p := ⟨w.heap.size, 2, none⟩) (Nat.le_refl _) _).setCell (p := ⟨w.heap.size, 3, none⟩) (Nat.le_refl _) _).drew
      · have hb4 : (Y + bb != 0) = true := by rw [bne_iff_ne]; exact h4
        have hp4' : 1 ≤ Y + bb := by omega
        have hq0 : 0 ≤ (X + aa) / (Y + ba) := Int.ediv_nonneg hp1 (by omega)
        have hq1 : (X + aa) / (Y + ba) ≤ X + aa := Int.ediv_le_self _ hp1
        have hq2 : 0 ≤ (X + ab) / (Y + bb) := Int.ediv_nonneg hp2 (by omega)
        have hq3 : (X + ab) / (Y + bb) ≤ X + ab := Int.ediv_le_self _ hp2
        by_cases hq : (X + aa) / (Y + ba) = (X + ab) / (Y + bb)
        · obtain ⟨h', hs', hlt'⟩ := hL.next hx0 h3 h4 rfl hq
          have Hlt' := Lib.hid hlt'
          clear hlt'
          have hbq : ((X + aa) / (Y + ba) != (X + ab) / (Y + bb)) = false := by rw [bne_eq_false_iff_eq]; exact hq
          have Hq := Lib.hid hq
          have H' := Lib.hid h'
          obtain ⟨b3l', b3u'⟩ := h'.b3
          obtain ⟨b4l', b4u'⟩ := h'.b4
          have hlY' := h'.lY
          have hnY' := h'.nY
          clear hq h3 h4 h'
          go_wp2_with fail
          go_roundw
          case rel =>
            have hon := ((((Only.refl (w.heap.size + 1) wr).setCell 0 (.int .i64 ba)).setCell 1 (.int .i64 bb)).setCell 2 (.int .i64 (aa - (X + aa) / (Y + ba) * ba))).setCell 3 (.int .i64 (ab - (X + aa) / (Y + ba) * bb))
            have hb5 := (((hblk.store 0 (.int .i64 ba)).store 1 (.int .i64 bb)).store 2 (.int .i64 (aa - (X + aa) / (Y + ba) * ba))).store 3 (.int .i64 (ab - (X + aa) / (Y + ba) * bb))
            exact ⟨ba, bb, _, _, Y, _, rfl, rfl, hon.blk (by omega) hres, hb5, H'.out, Or.inr hs', hbel.trans (hon.below (by omega))⟩
          case measure => have := Hlt'.out; simp only [intOf]; omega
        · have hbq : ((X + aa) / (Y + ba) != (X + ab) / (Y + bb)) = true := by rw [bne_iff_ne]; exact hq
          clear hq
          go_wp2_with fail
          go_region
          all_goals (try go_wp2_with fail)
          all_goals
            refine bodyPost_ret (v := .tuple #[.agg #[.int .i64 aa, .int .i64 ab, .int .i64 ba, .int .i64 bb], .bool (ab != 0)]) (by simp [results, Tryz.results66, go_sem, d0, d1, d2, d3]) rfl ⟨aa, ab, ba, bb, X, Y, rfl, hL, hstr, ?_⟩
            exact ((((hbel.setCell (p := ⟨w.heap.size, 0, none⟩) (Nat.le_refl _) _).setCell (p := ⟨w.heap.size, 1, none⟩) (Nat.le_refl _) _).setCell (p := ⟨w.heap.size, 2, none⟩) (Nat.le_refl _) _).setCell (p := ⟨w.heap.size, 3, none⟩) (Nat.le_refl _) _).drew

end Go.Proofs.YtemcdnppgnobmaaGreatDoor
