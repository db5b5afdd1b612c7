/-
  Plain numbers: long division, digit by digit. Nothing of any program stands here.
  The walk of frac's guess.
  The walks of frac's takeOff and putBack.
-/
import Derived.Test.YtemcdnppgnobmaaGreatDoorNat
import Derived.Test.YtemcdnppgnobmaaGreatDoorDig7
set_option linter.unusedVariables false
namespace Go.Proofs.YtemcdnppgnobmaaGreatDoor

/-- The guess of a digit: by the first three digits and the first two. -/
def guessOf (p0 p1 p2 t s : Nat) : Nat := min 999999999 (((p0 * bas + p1) * bas + p2) / (t * bas + s))

theorem guessOf_lt (p0 p1 p2 t s : Nat) : guessOf p0 p1 p2 t s < 1000000000 := Nat.lt_of_le_of_lt (Nat.min_le_left _ _) (by decide)

/-- q is not below the guess, and more than it where the test says so. -/
theorem guess_over {p0 p1 p2 t s q r : Nat} (ht : 0 < t) (hq : q * t + r = p0 * bas + p1) (hover : bas ≤ q ∨ r * bas + p2 < q * s) (hge : guessOf p0 p1 p2 t s ≤ q) : guessOf p0 p1 p2 t s ≤ q - 1 ∧ 1 ≤ q := by
  have hV : 0 < t * bas + s := by have := Nat.mul_pos ht bas_pos; omega
  have h1 : guessOf p0 p1 p2 t s < q := by
    rcases hover with h | h
    · have : guessOf p0 p1 p2 t s ≤ 999999999 := Nat.min_le_left _ _
      unfold bas at h; omega
    · refine Nat.lt_of_le_of_lt (Nat.min_le_right _ _) ?_
      rw [Nat.div_lt_iff_lt_mul hV, ← hq, Nat.add_mul, Nat.mul_add, Nat.mul_assoc]
      omega
  omega

/-- q is not above the guess where the test says no. -/
theorem guess_under {p0 p1 p2 t s q r : Nat} (ht : 0 < t) (hq : q * t + r = p0 * bas + p1) (hb : q ≤ 999999999) (hno : q * s ≤ r * bas + p2) (hge : guessOf p0 p1 p2 t s ≤ q) : guessOf p0 p1 p2 t s = q := by
  have hV : 0 < t * bas + s := by have := Nat.mul_pos ht bas_pos; omega
  have h1 : q ≤ ((p0 * bas + p1) * bas + p2) / (t * bas + s) := by
    rw [Nat.le_div_iff_mul_le hV, ← hq, Nat.add_mul, Nat.mul_add, Nat.mul_assoc]
    omega
  have h2 : q ≤ guessOf p0 p1 p2 t s := Nat.le_min.2 ⟨hb, h1⟩
  omega

/-- The quotient of the first two digits by the first one is not below the guess. -/
theorem guess_first {p0 p1 p2 t s : Nat} (ht : 0 < t) (hp2 : p2 < bas) : guessOf p0 p1 p2 t s ≤ (p0 * bas + p1) / t := by
  refine Nat.le_trans (Nat.min_le_right _ _) ?_
  have hV : 0 < t * bas + s := by have := Nat.mul_pos ht bas_pos; omega
  rw [Nat.le_div_iff_mul_le ht]
  have h1 := Nat.div_mul_le_self ((p0 * bas + p1) * bas + p2) (t * bas + s)
  generalize ((p0 * bas + p1) * bas + p2) / (t * bas + s) = g at *
  rw [Nat.mul_add, ← Nat.mul_assoc] at h1
  have h2 : g * t * bas < (p0 * bas + p1 + 1) * bas := by rw [Nat.add_mul (p0 * bas + p1)]; omega
  have h3 := Nat.lt_of_mul_lt_mul_right h2
  omega

/-- The guess is the digit, or one more. U: all digits; H: its first three; V, G likewise; P: the place of the rest. -/
theorem guess_near {U V p0 p1 p2 t s P u v : Nat} (hU : U = ((p0 * bas + p1) * bas + p2) * P + u) (hu : u < P) (hV : V = (t * bas + s) * P + v) (hv : v < P) (ht : 0 < t) (hUV : U < V * bas) :
    U / V ≤ guessOf p0 p1 p2 t s ∧ guessOf p0 p1 p2 t s ≤ U / V + 1 := by
  have hP : 0 < P := by omega
  have hG : 0 < t * bas + s := by have := Nat.mul_pos ht bas_pos; omega
  have hVpos : 0 < V := by have := Nat.mul_pos hG hP; omega
  constructor
  · refine Nat.le_min.2 ⟨?_, ?_⟩
    · have : U / V < bas := by rw [Nat.div_lt_iff_lt_mul hVpos, Nat.mul_comm]; exact hUV
      unfold bas at this; omega
    · rw [Nat.le_div_iff_mul_le hG]
      have h1 := Nat.div_mul_le_self U V
      generalize U / V = Q at *
      have h2 : Q * (t * bas + s) * P < ((p0 * bas + p1) * bas + p2 + 1) * P := by
        rw [Nat.add_mul _ 1 P, Nat.one_mul]
        have : Q * (t * bas + s) * P ≤ Q * V := by rw [Nat.mul_assoc, hV]; exact Nat.mul_le_mul_left _ (by omega)
        omega
      have h3 := Nat.lt_of_mul_lt_mul_right h2
      omega
  · have hgb : guessOf p0 p1 p2 t s ≤ 999999999 := Nat.min_le_left _ _
    have hg : guessOf p0 p1 p2 t s * (t * bas + s) ≤ (p0 * bas + p1) * bas + p2 :=
      Nat.le_trans (Nat.mul_le_mul_right _ (Nat.min_le_right _ _)) (Nat.div_mul_le_self _ _)
    generalize guessOf p0 p1 p2 t s = g at *
    rcases Nat.eq_zero_or_pos g with h0 | h0
    · rw [h0]; exact Nat.zero_le _
    · obtain ⟨k, rfl⟩ : ∃ k, g = k + 1 := ⟨g - 1, by omega⟩
      have h1 : k ≤ U / V := by
        rw [Nat.le_div_iff_mul_le hVpos]
        have h2 : (k + 1) * (t * bas + s) * P ≤ U := by rw [hU]; exact Nat.le_trans (Nat.mul_le_mul_right _ hg) (Nat.le_add_right _ _)
        have h3 : k * V = k * (t * bas + s) * P + k * v := by rw [hV, Nat.mul_add, Nat.mul_assoc]
        have h4 : (k + 1) * (t * bas + s) * P = k * (t * bas + s) * P + (t * bas + s) * P := by rw [Nat.add_mul, Nat.add_mul, Nat.one_mul]
        have h5 : k * v ≤ bas * P := Nat.mul_le_mul (by unfold bas; omega) (by omega)
        have h6 : bas * P ≤ (t * bas + s) * P := Nat.mul_le_mul_right _ (by have := Nat.mul_le_mul_right bas ht; omega)
        omega
      omega

/-- The rest, where the guess was the digit. -/
theorem rest_right {U V q seg seg' top c B : Nat} (hU : U = seg + B * top) (h : seg' + q * V = seg + c * B) (hc : ¬ top < c) (hq : q ≤ U / V + 1) (hq' : U / V ≤ q) (hV : 0 < V) (hVB : V ≤ B) :
    q = U / V ∧ seg' = U % V := by
  have h1 : q * V ≤ U := by
    have : c * B ≤ B * top := by rw [Nat.mul_comm]; exact Nat.mul_le_mul_left _ (by omega)
    omega
  have h2 : q ≤ U / V := (Nat.le_div_iff_mul_le hV).2 h1
  have h3 : q = U / V := by omega
  refine ⟨h3, ?_⟩
  have h4 := Nat.mod_add_div U V
  have h5 : U % V < V := Nat.mod_lt _ hV
  rw [← h3, Nat.mul_comm] at h4
  obtain ⟨d, rfl⟩ : ∃ d, top = c + d := ⟨top - c, by omega⟩
  have h6 : U % V = seg' + B * d := by
    rw [Nat.mul_add, Nat.mul_comm B c] at hU; omega
  rcases Nat.eq_zero_or_pos d with h0 | h0
  · rw [h0] at h6; omega
  · have : B * 1 ≤ B * d := Nat.mul_le_mul_left _ h0
    omega

/-- The rest, where the guess was one more: after putting back. -/
theorem rest_back {U V q seg seg' seg'' top c c' B : Nat} (hU : U = seg + B * top) (h : seg' + q * V = seg + c * B) (h' : seg'' + c' * B = seg' + V) (hs' : seg' < B) (hs'' : seg'' < B) (hc : top < c) (hq : q ≤ U / V + 1) (hq' : U / V ≤ q) (hV : 0 < V) (hVB : V ≤ B) :
    q = U / V + 1 ∧ seg'' = U % V := by
  have h1 : U < q * V := by
    have : B * top + B ≤ c * B := by rw [Nat.mul_comm c B, ← Nat.mul_succ]; exact Nat.mul_le_mul_left _ hc
    omega
  have h2 : U / V < q := (Nat.div_lt_iff_lt_mul hV).2 h1
  have h3 : q = U / V + 1 := by omega
  refine ⟨h3, ?_⟩
  have h4 := Nat.mod_add_div U V
  have h5 : U % V < V := Nat.mod_lt _ hV
  have h6 : q * V = V * (U / V) + V := by rw [h3, Nat.add_mul, Nat.one_mul, Nat.mul_comm]
  obtain ⟨d, rfl⟩ : ∃ d, c = top + d := ⟨c - top, by omega⟩
  rw [Nat.add_mul, Nat.mul_comm top B] at h
  have h7 : U % V + d * B = seg' + V := by omega
  have h8 : seg'' + c' * B = U % V + d * B := by omega
  have h9 : (seg'' + c' * B) % B = (U % V + d * B) % B := by rw [h8]
  rw [Nat.add_mul_mod_self_right, Nat.add_mul_mod_self_right, Nat.mod_eq_of_lt hs'', Nat.mod_eq_of_lt (by omega)] at h9
  exact h9

end Go.Proofs.YtemcdnppgnobmaaGreatDoor

namespace Go.Proofs.YtemcdnppgnobmaaGreatDoor
open Go.RowKit

def GuessRel (w : World) (p0 p1 p2 t s : Nat) (qv rv : Value) (wr : World) : Prop :=
  ∃ q r : Nat, qv = .int .u64 q ∧ rv = .int .u64 r ∧ q * t + r = p0 * bas + p1 ∧ guessOf p0 p1 p2 t s ≤ q ∧ q ≤ 1000000000000000000 ∧ r < 1000000000 ∧ Drew w wr

theorem guess_stop {p0 p1 p2 t s q r : Nat} (ht : 0 < t) (hpt : p0 ≤ t) (l1 : p1 < 1000000000) (ls : s < 1000000000) (hr : 1000000000 ≤ r) (hq : q * t + r = p0 * bas + p1) (hge : guessOf p0 p1 p2 t s ≤ q) :
    q ≤ 999999999 ∧ guessOf p0 p1 p2 t s = q := by
  have h1 : q * t < bas * t := by
    have := Nat.mul_le_mul_right bas hpt
    rw [Nat.mul_comm t] at this
    unfold bas at *; omega
  have h2 : q < bas := Nat.lt_of_mul_lt_mul_right h1
  have hb : q ≤ 999999999 := by unfold bas at h2; omega
  refine ⟨hb, guess_under ht hq hb ?_ hge⟩
  have h3 : q * s ≤ 999999999 * 999999999 := Nat.mul_le_mul hb (by omega)
  have h4 : 1000000000 * bas ≤ r * bas := Nat.mul_le_mul_right _ hr
  unfold bas at *; omega

set_option maxRecDepth 100000 in
set_option maxHeartbeats 800000 in
theorem guess_any (g o g' o' m cap cap' p0 p1 p2 t s : Nat) (w : World)
    (h0 : w.cell? ⟨g, o + (m + 2), none⟩ = some (.int .u32 p0)) (h1 : w.cell? ⟨g, o + (m + 1), none⟩ = some (.int .u32 p1)) (h2 : w.cell? ⟨g, o + m, none⟩ = some (.int .u32 p2))
    (k1 : w.cell? ⟨g', o' + (m + 1), none⟩ = some (.int .u32 t)) (k2 : w.cell? ⟨g', o' + m, none⟩ = some (.int .u32 s))
    (l0 : p0 < 1000000000) (l1 : p1 < 1000000000) (l2 : p2 < 1000000000) (lt : t < 1000000000) (ls : s < 1000000000) (ht : 0 < t) (hpt : p0 ≤ t) (hm : m ≤ 100000000000) :
    Calls Tryz.prog 92 #[.slice (some ⟨g, o, none⟩) (m + 2 + 1) cap, .slice (some ⟨g', o', none⟩) (m + 2) cap'] w fun e w' => e = .returned (.int .u32 (guessOf p0 p1 p2 t s : Nat)) ∧ Drew w w' := by
  go_enter Tryz.func92, Tryz.ntmps92
  go_wp2
  go_quiet (fail)
  have hti : (1 : Int) ≤ t := by omega
  go_wp2
  go_quiet (fail)
  go_wp2
  go_loopw [8, 9] (GuessRel w p0 p1 p2 t s) (fun q _ _ => (intOf q).toNat)
  case atStart =>
    have e : (((p0 * 1000000000 + p1) / t : Nat) : Int) = ((p0 : Int) * 1000000000 + p1) / t := rfl
    have e' : (((p0 * 1000000000 + p1) % t : Nat) : Int) = ((p0 : Int) * 1000000000 + p1) % t := rfl
    rw [← e, ← e']
    refine ⟨(p0 * 1000000000 + p1) / t, (p0 * 1000000000 + p1) % t, rfl, rfl, ?_, guess_first ht l2, ?_, ?_, (by repeat (first | exact Drew.refl _ | refine Drew.drewN ?_ _))⟩
    · rw [Nat.mul_comm]; exact Nat.div_add_mod _ _
    · exact Nat.le_trans (Nat.div_le_self _ _) (by omega)
    · have := Nat.mod_lt (p0 * 1000000000 + p1) ht; omega
  case round =>
    obtain ⟨q, r, rfl, rfl, hqr, hge, hq, hr, d, rfl⟩ := hrel
    have Hqr := Lib.hid hqr
    have Hge := Lib.hid hge
    clear hqr hge
    by_cases hbig : (1000000000 : Int) ≤ q
    · have hgt : 1 ≤ q := by omega
      have hover := guess_over ht Hqr.out (Or.inl (show bas ≤ q by unfold bas; omega)) Hge.out
      have Hover := Lib.hid hover.1
      have Hstep : Hid ((q - 1) * t + (r + t) = p0 * bas + p1) := by
        show (q - 1) * t + (r + t) = p0 * bas + p1
        obtain ⟨k, rfl⟩ : ∃ k, q = k + 1 := ⟨q - 1, by omega⟩
        rw [Nat.add_sub_cancel, ← Hqr.out, Nat.add_mul, Nat.one_mul]; omega
      clear hover
      go_wp2
      go_quiet (fail)
      by_cases hrb : (1000000000 : Int) ≤ r + t
      · go_wp2
        go_ret
        refine ⟨?_, (by exact ⟨_, rfl⟩)⟩
        obtain ⟨a, b⟩ := guess_stop ht hpt l1 ls (show 1000000000 ≤ r + t by omega) Hstep.out Hover.out
        exact ret_int (by rw [b]; omega)
      · go_wp2
        go_roundw
        case rel => exact ⟨q - 1, r + t, by go_num, by go_num, Hstep.out, Hover.out, by omega, by omega, (by exact ⟨_, rfl⟩)⟩
        case measure => simp [intOf]; omega
    · have hqs := mul_le q s (by omega) ls
      have hqs' : (q : Int) * s ≤ 999999998000000001 := by rw [← Int.natCast_mul]; omega
      have hqs0 : 0 ≤ (q : Int) * s := by rw [← Int.natCast_mul]; omega
      have hqb : q ≤ 999999999 := by omega
      have Hf := Lib.hid (fun hno : q * s ≤ r * bas + p2 => guess_under ht Hqr.out hqb hno Hge.out)
      have hbd : decide ((1000000000 : Int) ≤ (q : Int)) = false := decide_eq_false hbig
      have w1 : IntKind.i64.wrap (m : Int) = m := IntWalk.i64_in _ (by omega)
      have w2 : IntKind.u64.wrap ((q : Int) * s) = q * s := IntWalk.u64_in _ (by omega)
      have w3 : IntKind.u64.wrap ((r : Int) * 1000000000) = r * 1000000000 := IntWalk.u64_in _ (by omega)
      have w4 : IntKind.u64.wrap ((r : Int) * 1000000000 + p2) = r * 1000000000 + p2 := IntWalk.u64_in _ (by omega)
      by_cases hgt : (r : Int) * 1000000000 + p2 < q * s
      · have hover := guess_over ht Hqr.out (Or.inr (show r * bas + p2 < q * s by unfold bas; rw [← Int.natCast_mul] at hgt; omega)) Hge.out
        have Hover := Lib.hid hover.1
        have hq1 := hover.2
        have Hstep : Hid ((q - 1) * t + (r + t) = p0 * bas + p1) := by
          show (q - 1) * t + (r + t) = p0 * bas + p1
          obtain ⟨k, rfl⟩ : ∃ k, q = k + 1 := ⟨q - 1, by omega⟩
          rw [Nat.add_sub_cancel, ← Hqr.out, Nat.add_mul, Nat.one_mul]; omega
        clear hover
        go_wp2
        go_quiet (fail)
        clear w1 w2 w3 w4 hbd
        by_cases hrb : (1000000000 : Int) ≤ r + t
        · go_wp2
          go_ret
          refine ⟨?_, (by exact ⟨_, rfl⟩)⟩
          obtain ⟨a, b⟩ := guess_stop ht hpt l1 ls (show 1000000000 ≤ r + t by omega) Hstep.out Hover.out
          exact ret_int (by rw [b]; omega)
        · go_wp2
          go_roundw
          case rel => exact ⟨q - 1, r + t, by go_num, by go_num, Hstep.out, Hover.out, by omega, by omega, (by exact ⟨_, rfl⟩)⟩
          case measure => simp [intOf]; omega
      · have hgd : decide ((r : Int) * 1000000000 + p2 < q * s) = false := decide_eq_false hgt
        go_wp2
        go_quiet (fail)
        clear w1 w2 w3 w4 hbd
        go_wp2
        go_ret
        refine ⟨?_, (by exact ⟨_, rfl⟩)⟩
        have ef := Hf.out (by unfold bas; rw [← Int.natCast_mul] at hgt; omega)
        exact ret_int (by rw [ef])

end Go.Proofs.YtemcdnppgnobmaaGreatDoor

namespace Go.Proofs.YtemcdnppgnobmaaGreatDoor
open Go.RowKit

/-- The row at block g, from place j on, as the loops of takeOff and putBack leave it: k digits are done. -/
def PartIs (w : World) (g j k : Nat) (xs0 : List Nat) (wr : World) (xs : List Nat) : Prop :=
  Blk wr g 66 (cellsOf .u32 xs) ∧ xs.length = xs0.length ∧ Low xs ∧ xs.take j = xs0.take j ∧ xs.drop (j + k) = xs0.drop (j + k) ∧ Only g w wr

theorem PartIs.next {w : World} {g j k : Nat} {xs0 : List Nat} {wr wr' : World} {xs : List Nat} (h : PartIs w g j k xs0 wr xs) (d : Nat) (hd : d < 1000000000)
    (hb : Blk wr' g 66 (cellsOf .u32 (xs.set (j + k) d))) (ho : Only g wr wr') : PartIs w g j (k + 1) xs0 wr' (xs.set (j + k) d) := by
  obtain ⟨h1, h2, h3, h4, h5, h6⟩ := h
  refine ⟨hb, by rw [List.length_set]; exact h2, h3.set _ hd, ?_, ?_, h6.trans ho⟩
  · rw [List.take_set_of_le (by omega)]; exact h4
  · rw [drop_set_of_lt _ _ _ _ (by omega)]
    exact drop_of_drop h5 (by omega)

def TakeRel (w : World) (g j n q : Nat) (xs0 lv : List Nat) (c i : Value) (wr : World) : Prop :=
  ∃ k cy : Nat, k ≤ n ∧ cy < 1000000000 ∧ c = .int .u64 cy ∧ i = .int .i64 k ∧ ∃ xs, PartIs w g j k xs0 wr xs ∧ seg xs j k + q * ofL (lv.take k) = seg xs0 j k + cy * bas ^ k

def RetTake (w : World) (g j n q : Nat) (xs0 lv : List Nat) (e : Ending) (w' : World) : Prop :=
  ∃ cy xs, e = .returned (.bool (decide (xs0.getD (j + n) 0 < cy))) ∧ PartIs w g j n xs0 w' xs ∧ seg xs j n + q * ofL lv = seg xs0 j n + cy * bas ^ n

theorem set_set_same (l : List Nat) (i a b : Nat) : (l.set i a).set i b = l.set i b := by rw [List.set_set]

set_option maxRecDepth 100000 in
set_option maxHeartbeats 1600000 in
theorem takeOff_any (g j g' o' n cap cap' q : Nat) (xs0 lv : List Nat) (w : World) (hb : Blk w g 66 (cellsOf .u32 xs0)) (hlow : Low xs0) (hl : j + n < xs0.length) (hv : Sl .u32 w (some ⟨g', o', none⟩) n lv) (hvl : Low lv) (hgg : g' ≠ g) (hq : q < 1000000000) (hn9 : n ≤ 100000000000) :
    Calls Tryz.prog 93 #[.slice (some ⟨g, j, none⟩) (n + 1) cap, .slice (some ⟨g', o', none⟩) n cap', .int .u32 q] w (RetTake w g j n q xs0 lv) := by
  have Hl := Lib.hid hl
  have Hv := Lib.hid hv.len
  clear hl
  go_enter Tryz.func93, Tryz.ntmps93
  go_wp2
  go_loopw [7, 14] (TakeRel w g j n q xs0 lv) (fun _ i _ => n - (intOf i).toNat)
  case atStart =>
    exact ⟨0, 0, by omega, by omega, rfl, rfl, xs0, ⟨hb, rfl, hlow, rfl, rfl, Only.refl _ _⟩, by simp [seg_zero, ofL]⟩
  case round =>
    obtain ⟨k, cy, hk, hcy, rfl, rfl, xs, hpart, hsum⟩ := hrel
    have Hsum := Lib.hid hsum
    have Hpart := Lib.hid hpart
    have Hlen := Lib.hid hpart.2.1
    have hblk := hpart.1
    have hlow' := hpart.2.2.1
    have hdrop := Lib.hid hpart.2.2.2.2.1
    have honly := hpart.2.2.2.2.2
    clear hsum hpart hb
    have hco := hblk.num (j + k) (by rw [Hlen.out]; have := Hl.out; omega)
    have hfo := hblk.free (j + k)
    have hpl : xs.getD (j + k) 0 < 1000000000 := hlow'.get _
    have Hp0 := Lib.hid (show xs.getD (j + k) 0 = xs0.getD (j + k) 0 from getD_of_drop hdrop.out (by omega))
    generalize hpa : xs.getD (j + k) 0 = p at *
    have Hpa := Lib.hid hpa
    clear hpa
    by_cases hkn : k < n
    · obtain ⟨b, off, e, hbs, ha⟩ := Sl.at hv (by omega)
      injection e with e
      injection e with e1 e2
      subst e1 e2
      have hca := (honly.cell (p := ⟨g', o' + k, none⟩) hgg).trans (ha k hkn)
      have hyl : lv.getD k 0 < 1000000000 := hvl.get k
      generalize hya : lv.getD k 0 = ya at *
      have Hya := Lib.hid hya
      clear ha hya
      have hxy := mul_le ya q hyl hq
      have hxy' : (ya : Int) * q ≤ 999999998000000001 := by rw [← Int.natCast_mul]; omega
      have hxy0 : 0 ≤ (ya : Int) * q := by rw [← Int.natCast_mul]; omega
      have e3 := Lib.hid (show ((ya * q + cy : Nat) : Int) = (ya : Int) * q + cy by simp only [Int.natCast_add, Int.natCast_mul])
      have hP := Hpart.out
      by_cases hlt : (p : Int) < ((ya : Int) * q + cy) % 1000000000
      · go_wp2
        go_roundw
        case rel =>
          rw [← e3.out] at hlt ⊢
          have hb2 := (hblk.put (j + k) (p + 1000000000) (z := (p : Int) + 1000000000) (by omega)).put (j + k) (p + 1000000000 - (ya * q + cy) % 1000000000) (z := (p : Int) + 1000000000 - ((ya * q + cy : Nat) : Int) % 1000000000) (by omega)
          rw [set_set_same] at hb2
          refine ⟨k + 1, (ya * q + cy) / 1000000000 + 1, by omega, by omega, by go_num, by go_num, _, hP.next _ (by omega) hb2 (((Only.refl g wr).setCell _ _).setCell _ _), ?_⟩
          rw [seg_set _ _ _ _ (by rw [Hlen.out]; have := Hl.out; omega), seg_succ, ← Hp0.out, ofL_take_succ, Hya.out, Nat.pow_succ]
          exact off_step Hsum.out (by unfold bas; omega)
        case measure => simp [intOf]; omega
      · go_wp2
        go_roundw
        case rel =>
          rw [← e3.out] at hlt ⊢
          have hb2 := hblk.put (j + k) (p - (ya * q + cy) % 1000000000) (z := (p : Int) - ((ya * q + cy : Nat) : Int) % 1000000000) (by omega)
          refine ⟨k + 1, (ya * q + cy) / 1000000000, by omega, by omega, by go_num, by go_num, _, hP.next _ (by omega) hb2 ((Only.refl g wr).setCell _ _), ?_⟩
          rw [seg_set _ _ _ _ (by rw [Hlen.out]; have := Hl.out; omega), seg_succ, ← Hp0.out, ofL_take_succ, Hya.out, Nat.pow_succ]
          exact off_step Hsum.out (by unfold bas; omega)
        case measure => simp [intOf]; omega
    · obtain rfl : k = n := by omega
      go_wp2
      go_ret
      refine ⟨cy, xs, ?_, Hpart.out, ?_⟩
      · rw [← Hp0.out]; rfl
      · rw [Hsum.out.symm, ofL_take_ge lv _ (by rw [Hv.out]; omega)]

def PutRel (w : World) (g j n : Nat) (xs0 lv : List Nat) (c i : Value) (wr : World) : Prop :=
  ∃ k cy : Nat, k ≤ n ∧ cy ≤ 1 ∧ c = .int .u32 cy ∧ i = .int .i64 k ∧ ∃ xs, PartIs w g j k xs0 wr xs ∧ seg xs j k + cy * bas ^ k = seg xs0 j k + ofL (lv.take k)

def RetPut (w : World) (g j n : Nat) (xs0 lv : List Nat) (e : Ending) (w' : World) : Prop :=
  ∃ cy xs, e = .returned (.tuple #[]) ∧ PartIs w g j n xs0 w' xs ∧ seg xs j n + cy * bas ^ n = seg xs0 j n + ofL lv

set_option maxRecDepth 100000 in
set_option maxHeartbeats 1600000 in
theorem putBack_any (g j g' o' n cap cap' : Nat) (xs0 lv : List Nat) (w : World) (hb : Blk w g 66 (cellsOf .u32 xs0)) (hlow : Low xs0) (hl : j + n < xs0.length) (hv : Sl .u32 w (some ⟨g', o', none⟩) n lv) (hvl : Low lv) (hgg : g' ≠ g) (hn9 : n ≤ 100000000000) :
    Calls Tryz.prog 94 #[.slice (some ⟨g, j, none⟩) (n + 1) cap, .slice (some ⟨g', o', none⟩) n cap'] w (RetPut w g j n xs0 lv) := by
  have Hl := Lib.hid hl
  have Hv := Lib.hid hv.len
  clear hl
  go_enter Tryz.func94, Tryz.ntmps94
  go_wp2
  go_loopw [4, 10] (PutRel w g j n xs0 lv) (fun _ i _ => n - (intOf i).toNat)
  case atStart =>
    exact ⟨0, 0, by omega, by omega, rfl, rfl, xs0, ⟨hb, rfl, hlow, rfl, rfl, Only.refl _ _⟩, by simp [seg_zero, ofL]⟩
  case round =>
    obtain ⟨k, cy, hk, hcy, rfl, rfl, xs, hpart, hsum⟩ := hrel
    have Hsum := Lib.hid hsum
    have Hpart := Lib.hid hpart
    have Hlen := Lib.hid hpart.2.1
    have hblk := hpart.1
    have hlow' := hpart.2.2.1
    have hdrop := Lib.hid hpart.2.2.2.2.1
    have honly := hpart.2.2.2.2.2
    clear hsum hpart hb
    have hco := hblk.num (j + k) (by rw [Hlen.out]; have := Hl.out; omega)
    have hfo := hblk.free (j + k)
    have hpl : xs.getD (j + k) 0 < 1000000000 := hlow'.get _
    have Hp0 := Lib.hid (show xs.getD (j + k) 0 = xs0.getD (j + k) 0 from getD_of_drop hdrop.out (by omega))
    generalize hpa : xs.getD (j + k) 0 = p at *
    have Hpa := Lib.hid hpa
    clear hpa
    by_cases hkn : k < n
    · obtain ⟨b, off, e, hbs, ha⟩ := Sl.at hv (by omega)
      injection e with e
      injection e with e1 e2
      subst e1 e2
      have hca := (honly.cell (p := ⟨g', o' + k, none⟩) hgg).trans (ha k hkn)
      have hyl : lv.getD k 0 < 1000000000 := hvl.get k
      generalize hya : lv.getD k 0 = ya at *
      have Hya := Lib.hid hya
      clear ha hya
      have hP := Hpart.out
      by_cases hlt : (1000000000 : Int) ≤ p + ya + cy
      · go_wp2
        go_roundw
        case rel =>
          have hb2 := hblk.put (j + k) (p + ya + cy - 1000000000) (z := (p : Int) + ya + cy - 1000000000) (by omega)
          refine ⟨k + 1, 1, by omega, by omega, by go_num, by go_num, _, hP.next _ (by omega) hb2 ((Only.refl g wr).setCell _ _), ?_⟩
          rw [seg_set _ _ _ _ (by rw [Hlen.out]; have := Hl.out; omega), seg_succ, ← Hp0.out, ofL_take_succ, Hya.out, Nat.pow_succ]
          exact add_step Hsum.out (s := p + cy + ya) rfl (by unfold bas; omega)
        case measure => simp [intOf]; omega
      · go_wp2
        go_roundw
        case rel =>
          have hb2 := hblk.put (j + k) (p + ya + cy) (z := (p : Int) + ya + cy) (by omega)
          refine ⟨k + 1, 0, by omega, by omega, by go_num, by go_num, _, hP.next _ (by omega) hb2 ((Only.refl g wr).setCell _ _), ?_⟩
          rw [seg_set _ _ _ _ (by rw [Hlen.out]; have := Hl.out; omega), seg_succ, ← Hp0.out, ofL_take_succ, Hya.out, Nat.pow_succ]
          exact add_step Hsum.out (s := p + cy + ya) rfl (by unfold bas; omega)
        case measure => simp [intOf]; omega
    · obtain rfl : k = n := by omega
      go_wp2
      go_end0
      refine ⟨cy, xs, rfl, Hpart.out, ?_⟩
      rw [Hsum.out, ofL_take_ge lv _ (by rw [Hv.out]; omega)]

end Go.Proofs.YtemcdnppgnobmaaGreatDoor
