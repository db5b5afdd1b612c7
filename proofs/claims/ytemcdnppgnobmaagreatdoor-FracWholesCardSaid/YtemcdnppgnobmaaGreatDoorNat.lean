/-
  Plain numbers: naturals as lists of digits to the base 10^9, the lowest first. Nothing of any program stands here.
-/
set_option linter.unusedVariables false
namespace Go.Proofs.YtemcdnppgnobmaaGreatDoor

def bas : Nat := 1000000000
theorem bas_eq : bas = 1000000000 := rfl

def ofL : List Nat → Nat
  | [] => 0
  | x :: t => x + bas * ofL t

def toLF : Nat → Nat → List Nat
  | 0, _ => []
  | f + 1, n => if n = 0 then [] else n % bas :: toLF f (n / bas)

/-- The digits of a number, none 0 at the top. -/
def toL (n : Nat) : List Nat := toLF n n

/-- All digits are less than the base. -/
def Low (l : List Nat) : Prop := ∀ x ∈ l, x < bas

def trimL : List Nat → List Nat
  | [] => []
  | x :: t => match trimL t with
    | [] => if x = 0 then [] else [x]
    | y :: u => x :: y :: u

theorem toLF_more (f : Nat) : ∀ (n g : Nat), n ≤ f → n ≤ g → toLF f n = toLF g n := by
  induction f with
  | zero =>
    intro n g hf hg
    obtain rfl : n = 0 := by omega
    cases g <;> simp [toLF]
  | succ f ih =>
    intro n g hf hg
    cases g with
    | zero =>
      obtain rfl : n = 0 := by omega
      simp [toLF]
    | succ g =>
      unfold toLF
      by_cases h : n = 0
      · simp [h]
      · rw [if_neg h, if_neg h, ih (n / bas) g (by unfold bas; omega) (by unfold bas; omega)]

theorem toL_zero : toL 0 = [] := rfl
theorem toL_pos {n : Nat} (h : 0 < n) : toL n = n % bas :: toL (n / bas) := by
  unfold toL
  obtain ⟨m, rfl⟩ : ∃ m, n = m + 1 := ⟨n - 1, by omega⟩
  rw [toLF, if_neg (by omega)]
  rw [toLF_more m ((m + 1) / bas) ((m + 1) / bas) (by unfold bas; omega) (Nat.le_refl _)]

theorem bas_pos : 0 < bas := by decide

theorem ofL_toL (n : Nat) : ofL (toL n) = n := by
  induction n using Nat.strongRecOn with
  | ind n ih =>
    by_cases h : n = 0
    · subst h; rfl
    · rw [toL_pos (by omega), ofL, ih (n / bas) (by unfold bas; omega)]
      exact Nat.mod_add_div n bas

theorem low_toL (n : Nat) : Low (toL n) := by
  induction n using Nat.strongRecOn with
  | ind n ih =>
    by_cases h : n = 0
    · subst h; intro x hx; simp [toL_zero] at hx
    · rw [toL_pos (by omega)]
      intro x hx
      rcases List.mem_cons.1 hx with rfl | hx
      · exact Nat.mod_lt _ bas_pos
      · exact ih (n / bas) (by unfold bas; omega) x hx

theorem Low.tail {x : Nat} {t : List Nat} (h : Low (x :: t)) : Low t := fun y hy => h y (List.mem_cons_of_mem _ hy)
theorem Low.head {x : Nat} {t : List Nat} (h : Low (x :: t)) : x < bas := h x (List.mem_cons_self ..)
theorem Low.nil : Low [] := fun x hx => by simp at hx
theorem Low.cons {x : Nat} {t : List Nat} (hx : x < bas) (h : Low t) : Low (x :: t) := fun y hy => by
  rcases List.mem_cons.1 hy with rfl | hy
  · exact hx
  · exact h y hy
theorem Low.get {l : List Nat} (h : Low l) (i : Nat) : l.getD i 0 < bas := by
  rw [List.getD_eq_getElem?_getD]
  rcases Nat.lt_or_ge i l.length with hi | hi
  · rw [List.getElem?_eq_getElem hi]; exact h _ (List.getElem_mem hi)
  · rw [List.getElem?_eq_none hi]; exact bas_pos
theorem Low.append {l m : List Nat} (h : Low l) (k : Low m) : Low (l ++ m) := fun x hx => by
  rcases List.mem_append.1 hx with hx | hx
  · exact h x hx
  · exact k x hx
theorem Low.take {l : List Nat} (h : Low l) (n : Nat) : Low (l.take n) := fun x hx => h x (List.mem_of_mem_take hx)
theorem Low.drop {l : List Nat} (h : Low l) (n : Nat) : Low (l.drop n) := fun x hx => h x (List.mem_of_mem_drop hx)
theorem Low.replicate (n : Nat) : Low (List.replicate n 0) := fun x hx => by
  rw [(List.mem_replicate.1 hx).2]; exact bas_pos

theorem ofL_append (l m : List Nat) : ofL (l ++ m) = ofL l + bas ^ l.length * ofL m := by
  induction l with
  | nil => simp [ofL]
  | cons x t ih =>
    simp only [List.cons_append, ofL, ih, List.length_cons, Nat.pow_succ]
    rw [Nat.mul_add, Nat.mul_comm (bas ^ t.length) bas, Nat.mul_assoc, Nat.add_assoc]

theorem ofL_lt {l : List Nat} (h : Low l) : ofL l < bas ^ l.length := by
  induction l with
  | nil => simp [ofL]
  | cons x t ih =>
    have h1 := ih h.tail
    have h2 := h.head
    simp only [ofL, List.length_cons, Nat.pow_succ]
    have h3 : bas * (ofL t + 1) ≤ bas * bas ^ t.length := Nat.mul_le_mul_left _ h1
    rw [Nat.mul_add] at h3
    rw [Nat.mul_comm (bas ^ t.length)]
    omega

theorem ofL_replicate (n : Nat) : ofL (List.replicate n 0) = 0 := by
  induction n with
  | zero => rfl
  | succ n ih => rw [List.replicate_succ, ofL, ih]; omega

theorem ofL_trim (l : List Nat) : ofL (trimL l) = ofL l := by
  induction l with
  | nil => rfl
  | cons x t ih =>
    unfold trimL
    split
    · next h =>
      rw [h] at ih
      have ih' : 0 = ofL t := ih
      by_cases hx : x = 0
      · rw [if_pos hx]; show 0 = x + bas * ofL t; rw [← ih', hx]; rfl
      · rw [if_neg hx]; show x + bas * 0 = x + bas * ofL t; rw [← ih']
    · next y u h => rw [h] at ih; show x + bas * ofL (y :: u) = x + bas * ofL t; rw [ih]

theorem trim_eq_toL {l : List Nat} (h : Low l) : trimL l = toL (ofL l) := by
  induction l with
  | nil => rfl
  | cons x t ih =>
    have ih := ih h.tail
    have hx := h.head
    have hm : (x + bas * ofL t) % bas = x := by rw [Nat.add_mul_mod_self_left]; exact Nat.mod_eq_of_lt hx
    have hd : (x + bas * ofL t) / bas = ofL t := by
      rw [Nat.add_mul_div_left _ _ bas_pos, Nat.div_eq_of_lt hx, Nat.zero_add]
    unfold trimL
    split
    · next e =>
      rw [e] at ih
      have h0 : ofL t = 0 := by
        rcases Nat.eq_zero_or_pos (ofL t) with h0 | h0
        · exact h0
        · rw [toL_pos h0] at ih; cases ih
      by_cases hz : x = 0
      · rw [if_pos hz, ofL, h0, hz]; rfl
      · rw [if_neg hz, ofL, toL_pos (by omega), hm, hd, ← ih]
    · next y u e =>
      rw [e] at ih
      have h0 : 0 < ofL t := by
        rcases Nat.eq_zero_or_pos (ofL t) with h0 | h0
        · rw [h0] at ih; cases ih
        · exact h0
      rw [ofL, toL_pos (by have := Nat.mul_le_mul_left bas h0; have := bas_pos; omega), hm, hd, ← ih]

/-- How many digits a number has. -/
def limbs (n : Nat) : Nat := (toL n).length

theorem limbs_zero : limbs 0 = 0 := rfl
theorem limbs_pos {n : Nat} (h : 0 < n) : limbs n = limbs (n / bas) + 1 := by
  unfold limbs; rw [toL_pos h]; rfl

theorem lt_pow_limbs (n : Nat) : n < bas ^ limbs n := by
  have h := ofL_lt (low_toL n)
  rwa [ofL_toL] at h

theorem pow_limbs_le {n : Nat} (h : 0 < n) : bas ^ (limbs n - 1) ≤ n := by
  induction n using Nat.strongRecOn with
  | ind n ih =>
    rw [limbs_pos h]
    rcases Nat.eq_zero_or_pos (n / bas) with h0 | h0
    · rw [h0, limbs_zero]; simp; omega
    · have h1 := ih (n / bas) (by unfold bas; omega) h0
      have h2 : 1 ≤ limbs (n / bas) := by rw [limbs_pos h0]; omega
      obtain ⟨k, hk⟩ : ∃ k, limbs (n / bas) = k + 1 := ⟨limbs (n / bas) - 1, by omega⟩
      rw [hk] at h1 ⊢
      simp only [Nat.add_sub_cancel] at h1 ⊢
      rw [Nat.pow_succ]
      calc bas ^ k * bas ≤ (n / bas) * bas := Nat.mul_le_mul_right _ h1
        _ ≤ n := Nat.div_mul_le_self _ _

theorem limbs_le_of_lt {n k : Nat} (h : n < bas ^ k) : limbs n ≤ k := by
  rcases Nat.eq_zero_or_pos n with h0 | h0
  · rw [h0, limbs_zero]; omega
  · have h1 := pow_limbs_le h0
    have h2 : bas ^ (limbs n - 1) < bas ^ k := Nat.lt_of_le_of_lt h1 h
    have h3 : limbs n - 1 < k := (Nat.pow_lt_pow_iff_right (by decide)).1 h2
    omega

theorem lt_of_limbs_lt {n m : Nat} (h : limbs n < limbs m) : n < m := by
  have h1 := lt_pow_limbs n
  have h2 : 0 < m := by
    rcases Nat.eq_zero_or_pos m with h0 | h0
    · rw [h0, limbs_zero] at h; omega
    · exact h0
  have h3 := pow_limbs_le h2
  exact Nat.lt_of_lt_of_le (Nat.lt_of_lt_of_le h1 (Nat.pow_le_pow_right bas_pos (by omega))) h3

theorem limbs_mono {n m : Nat} (h : n ≤ m) : limbs n ≤ limbs m := by
  rcases Nat.lt_or_ge (limbs m) (limbs n) with hl | hl
  · exact absurd (lt_of_limbs_lt hl) (by omega)
  · exact hl

theorem limbs_eq_zero {n : Nat} (h : limbs n = 0) : n = 0 := by
  rcases Nat.eq_zero_or_pos n with h0 | h0
  · exact h0
  · rw [limbs_pos h0] at h; omega

theorem limbs_add_le (n m : Nat) : limbs (n + m) ≤ max (limbs n) (limbs m) + 1 := by
  apply limbs_le_of_lt
  have h1 := lt_pow_limbs n
  have h2 := lt_pow_limbs m
  have h3 : bas ^ limbs n ≤ bas ^ max (limbs n) (limbs m) := Nat.pow_le_pow_right bas_pos (Nat.le_max_left ..)
  have h4 : bas ^ limbs m ≤ bas ^ max (limbs n) (limbs m) := Nat.pow_le_pow_right bas_pos (Nat.le_max_right ..)
  rw [Nat.pow_succ]
  have h5 : bas ^ max (limbs n) (limbs m) * 2 ≤ bas ^ max (limbs n) (limbs m) * bas := Nat.mul_le_mul_left _ (by decide)
  omega

theorem limbs_mul_le (n m : Nat) : limbs (n * m) ≤ limbs n + limbs m := by
  apply limbs_le_of_lt
  rw [Nat.pow_add]
  rcases Nat.eq_zero_or_pos m with h0 | h0
  · rw [h0, Nat.mul_zero]; exact Nat.mul_pos (Nat.pow_pos bas_pos) (Nat.pow_pos bas_pos)
  · exact Nat.mul_lt_mul_of_lt_of_le (lt_pow_limbs n) (Nat.le_of_lt (lt_pow_limbs m)) (Nat.pow_pos bas_pos)

theorem getD_toL (n : Nat) : ∀ i, (toL n).getD i 0 = n / bas ^ i % bas := by
  induction n using Nat.strongRecOn with
  | ind n ih =>
    intro i
    by_cases h : n = 0
    · subst h; simp [toL_zero]
    · rw [toL_pos (by omega)]
      cases i with
      | zero => simp
      | succ i =>
        rw [List.getD_cons_succ, ih (n / bas) (by unfold bas; omega) i, Nat.pow_succ, Nat.mul_comm, Nat.div_div_eq_div_mul]

/-- How often a number is divided by q until it is 0. -/
def countF (q : Nat) : Nat → Nat → Nat
  | 0, _ => 0
  | f + 1, x => if x = 0 then 0 else countF q f (x / q) + 1
def count (q x : Nat) : Nat := countF q x x

theorem countF_more (q : Nat) (hq : 2 ≤ q) (f : Nat) : ∀ (n g : Nat), n ≤ f → n ≤ g → countF q f n = countF q g n := by
  induction f with
  | zero =>
    intro n g hf hg
    obtain rfl : n = 0 := by omega
    cases g <;> simp [countF]
  | succ f ih =>
    intro n g hf hg
    cases g with
    | zero =>
      obtain rfl : n = 0 := by omega
      simp [countF]
    | succ g =>
      unfold countF
      by_cases h : n = 0
      · simp [h]
      · have hd : n / q < n := Nat.div_lt_self (by omega) hq
        rw [if_neg h, if_neg h, ih (n / q) g (by omega) (by omega)]

theorem count_zero (q : Nat) : count q 0 = 0 := rfl
theorem count_pos {q x : Nat} (hq : 2 ≤ q) (h : 0 < x) : count q x = count q (x / q) + 1 := by
  unfold count
  obtain ⟨m, rfl⟩ : ∃ m, x = m + 1 := ⟨x - 1, by omega⟩
  have hd : (m + 1) / q < m + 1 := Nat.div_lt_self (by omega) hq
  rw [countF, if_neg (by omega), countF_more q hq m ((m + 1) / q) ((m + 1) / q) (by omega) (Nat.le_refl _)]

theorem lt_pow_count {q : Nat} (hq : 2 ≤ q) (x : Nat) : x < q ^ count q x := by
  induction x using Nat.strongRecOn with
  | ind x ih =>
    rcases Nat.eq_zero_or_pos x with h0 | h0
    · subst h0; simp [count_zero]
    · have hd : x / q < x := Nat.div_lt_self h0 hq
      rw [count_pos hq h0, Nat.pow_succ]
      have h1 := ih (x / q) hd
      have h2 : (x / q + 1) * q ≤ q ^ count q (x / q) * q := Nat.mul_le_mul_right _ h1
      have h3 := Nat.div_add_mod x q
      have h4 : x % q < q := Nat.mod_lt _ (by omega)
      rw [Nat.add_mul, Nat.mul_comm (x / q)] at h2
      omega

theorem pow_count_le {q : Nat} (hq : 2 ≤ q) {x : Nat} (h : 0 < x) : q ^ (count q x - 1) ≤ x := by
  induction x using Nat.strongRecOn with
  | ind x ih =>
    rw [count_pos hq h, Nat.add_sub_cancel]
    rcases Nat.eq_zero_or_pos (x / q) with h0 | h0
    · rw [h0, count_zero]; simp; omega
    · have h1 := ih (x / q) (Nat.div_lt_self h hq) h0
      obtain ⟨k, hk⟩ : ∃ k, count q (x / q) = k + 1 := ⟨count q (x / q) - 1, by rw [count_pos hq h0]; omega⟩
      rw [hk] at h1 ⊢
      rw [Nat.add_sub_cancel] at h1
      rw [Nat.pow_succ]
      exact Nat.le_trans (Nat.mul_le_mul_right _ h1) (Nat.div_mul_le_self _ _)

theorem count_le_of_lt {q x k : Nat} (hq : 2 ≤ q) (h : x < q ^ k) : count q x ≤ k := by
  rcases Nat.eq_zero_or_pos x with h0 | h0
  · rw [h0, count_zero]; omega
  · have h1 := pow_count_le hq h0
    have h3 : count q x - 1 < k := (Nat.pow_lt_pow_iff_right (by omega)).1 (Nat.lt_of_le_of_lt h1 h)
    omega

theorem count_eq_of {q x k : Nat} (hq : 2 ≤ q) (h : x < q ^ (k + 1)) (h' : q ^ k ≤ x) : count q x = k + 1 := by
  have h1 := count_le_of_lt hq h
  have h2 := lt_pow_count hq x
  have h3 : k < count q x := (Nat.pow_lt_pow_iff_right (by omega)).1 (Nat.lt_of_le_of_lt h' h2)
  omega

theorem ofL_take_succ (l : List Nat) (k : Nat) : ofL (l.take (k + 1)) = ofL (l.take k) + bas ^ k * l.getD k 0 := by
  rcases Nat.lt_or_ge k l.length with h | h
  · rw [List.take_succ_eq_append_getElem h, ofL_append, List.length_take, Nat.min_eq_left (by omega), List.getD_eq_getElem?_getD, List.getElem?_eq_getElem h]
    simp [ofL]
  · rw [List.take_of_length_le (by omega), List.take_of_length_le h, List.getD_eq_getElem?_getD, List.getElem?_eq_none h]
    simp

theorem ofL_set_take (l : List Nat) (k d : Nat) (h : k < l.length) : ofL ((l.set k d).take (k + 1)) = ofL (l.take k) + bas ^ k * d := by
  rw [ofL_take_succ, List.take_set_of_le (by omega)]
  simp [List.getD_eq_getElem?_getD, List.getElem?_set_self h]

theorem Low.set {l : List Nat} (h : Low l) (k : Nat) {d : Nat} (hd : d < bas) : Low (l.set k d) := fun x hx => by
  rcases List.mem_or_eq_of_mem_set hx with hx | rfl
  · exact h x hx
  · exact hd

theorem ofL_take_ge (l : List Nat) (k : Nat) (h : l.length ≤ k) : ofL (l.take k) = ofL l := by rw [List.take_of_length_le h]

/-- One column of an addition. -/
theorem add_step {X L M P c x y s d c' : Nat} (h : X + c * P = L + M) (hs : s = x + c + y) (hd : d + c' * bas = s) :
    X + P * d + c' * (P * bas) = L + P * x + (M + P * y) := by
  subst hs
  have h1 : P * d + c' * (P * bas) = P * (x + c + y) := by
    rw [← hd, Nat.mul_add]; congr 1; rw [Nat.mul_left_comm]
  rw [Nat.mul_add, Nat.mul_add] at h1
  rw [Nat.mul_comm c P] at h
  omega

/-- One column of a subtraction. -/
theorem sub_step {X L M P q x y d c' : Nat} (h : X + M = L + q * P) (hd : d + q + y = x + c' * bas) :
    X + P * d + (M + P * y) = L + P * x + c' * (P * bas) := by
  have h1 : P * (d + q + y) = P * x + c' * (P * bas) := by
    rw [hd, Nat.mul_add]; congr 1; rw [Nat.mul_left_comm]
  rw [Nat.mul_add, Nat.mul_add] at h1
  rw [Nat.mul_comm q P] at h
  omega

/-- One column of a row of a multiplication. -/
theorem mul_step {X0 X Q P x Y y t c s d c' : Nat} (h : X + c * (Q * P) = X0 + Q * x * Y) (hs : s = x * y + t + c) (hd : d + c' * bas = s) :
    X + Q * P * d + c' * (Q * P * bas) = X0 + Q * P * t + Q * x * (Y + P * y) := by
  subst hs
  have h1 : Q * P * d + c' * (Q * P * bas) = Q * P * (x * y + t + c) := by
    rw [← hd, Nat.mul_add]; congr 1; rw [Nat.mul_left_comm]
  have h2 : Q * P * (x * y + t + c) = Q * x * (P * y) + Q * P * t + c * (Q * P) := by
    rw [Nat.mul_add, Nat.mul_add]
    congr 1
    · congr 1
      simp only [Nat.mul_assoc, Nat.mul_left_comm]
    · rw [Nat.mul_comm c]
  rw [Nat.mul_add (Q * x)]
  omega

theorem getD_drop (l : List Nat) (a b : Nat) : (l.drop a).getD b 0 = l.getD (a + b) 0 := by
  simp [List.getD_eq_getElem?_getD, List.getElem?_drop]

theorem drop_set_of_lt (l : List Nat) (a b x : Nat) (h : a < b) : (l.set a x).drop b = l.drop b := by
  rw [List.drop_set, if_pos h]

theorem ofL_drop (l : List Nat) (j : Nat) (h : j < l.length) : ofL (l.drop j) = l.getD j 0 + bas * ofL (l.drop (j + 1)) := by
  rw [List.drop_eq_getElem_cons h, ofL, List.getD_eq_getElem?_getD, List.getElem?_eq_getElem h]
  rfl

theorem ofL_set_drop (l : List Nat) (j d : Nat) (h : j < l.length) : ofL ((l.set j d).drop j) = d + bas * ofL (l.drop (j + 1)) := by
  rw [ofL_drop _ _ (by rw [List.length_set]; exact h), drop_set_of_lt _ _ _ _ (by omega)]
  simp [List.getD_eq_getElem?_getD, List.getElem?_set_self h]

/-- One digit of a division by a digit. -/
theorem div_step {L Q r x b q r' : Nat} (h : L = Q * b + r) (hq : q * b + r' = r * bas + x) : x + bas * L = (q + bas * Q) * b + r' := by
  subst h
  rw [Nat.add_mul, Nat.mul_add, Nat.mul_assoc]
  have := Nat.mul_comm bas r
  omega

theorem div_digit {r x b : Nat} (hr : r < b) (hx : x < bas) : (r * bas + x) / b < bas := by
  apply Nat.div_lt_of_lt_mul
  have : (r + 1) * bas ≤ b * bas := Nat.mul_le_mul_right _ hr
  rw [Nat.add_mul] at this
  omega

theorem set_drop_same (l : List Nat) (j k d : Nat) : (l.set (j + k) d).drop j = (l.drop j).set k d := by
  rw [List.drop_set, if_neg (by omega), Nat.add_sub_cancel_left]

/-- A part of a row: k digits from place j on. -/
def seg (l : List Nat) (j k : Nat) : Nat := ofL ((l.drop j).take k)

theorem seg_zero (l : List Nat) (j : Nat) : seg l j 0 = 0 := by simp [seg, ofL]
theorem seg_succ (l : List Nat) (j k : Nat) : seg l j (k + 1) = seg l j k + bas ^ k * l.getD (j + k) 0 := by
  unfold seg; rw [ofL_take_succ, getD_drop]
theorem seg_set (l : List Nat) (j k d : Nat) (h : j + k < l.length) : seg (l.set (j + k) d) j (k + 1) = seg l j k + bas ^ k * d := by
  unfold seg
  rw [set_drop_same, ofL_set_take _ _ _ (by rw [List.length_drop]; omega)]
theorem seg_lt {l : List Nat} (h : Low l) (j k : Nat) : seg l j k < bas ^ k := by
  unfold seg
  refine Nat.lt_of_lt_of_le (ofL_lt ((h.drop j).take k)) (Nat.pow_le_pow_right bas_pos ?_)
  rw [List.length_take]; omega
theorem seg_head (l : List Nat) (j k : Nat) (h : j < l.length) : seg l j (k + 1) = l.getD j 0 + bas * seg l (j + 1) k := by
  unfold seg
  rw [List.drop_eq_getElem_cons h, List.take_succ_cons, ofL, List.getD_eq_getElem?_getD, List.getElem?_eq_getElem h]
  rfl
theorem seg_congr {l m : List Nat} {j k : Nat} (h : l.drop j = m.drop j) : seg l j k = seg m j k := by unfold seg; rw [h]
theorem take_of_take {l m : List Nat} {a b : Nat} (h : l.take b = m.take b) (hab : a ≤ b) : l.take a = m.take a := by
  have := congrArg (List.take a) h
  rwa [List.take_take, List.take_take, Nat.min_eq_left hab] at this
theorem drop_of_drop {l m : List Nat} {a b : Nat} (h : l.drop a = m.drop a) (hab : a ≤ b) : l.drop b = m.drop b := by
  have := congrArg (List.drop (b - a)) h
  rwa [List.drop_drop, List.drop_drop, show a + (b - a) = b by omega] at this
theorem getD_of_drop {l m : List Nat} {a b : Nat} (h : l.drop a = m.drop a) (hab : a ≤ b) : l.getD b 0 = m.getD b 0 := by
  have e1 := getD_drop l b 0
  have e2 := getD_drop m b 0
  rw [Nat.add_zero] at e1 e2
  rw [← e1, ← e2, drop_of_drop h hab]
theorem getD_of_take {l m : List Nat} {a b : Nat} (h : l.take a = m.take a) (hab : b < a) : l.getD b 0 = m.getD b 0 := by
  have := congrArg (fun x => List.getD x b 0) h
  simpa [List.getD_eq_getElem?_getD, List.getElem?_take, hab] using this

/-- One column of taking off. -/
theorem off_step {X X0 M P q y p p' c c' : Nat} (h : X + q * M = X0 + c * P) (hd : p' + (y * q + c) = p + c' * bas) : X + P * p' + q * (M + P * y) = X0 + P * p + c' * (P * bas) := by
  have h1 : P * (p' + (y * q + c)) = P * p + c' * (P * bas) := by
    rw [hd, Nat.mul_add]; congr 1; rw [Nat.mul_left_comm]
  have h2 : q * (P * y) = P * (y * q) := by rw [Nat.mul_left_comm, Nat.mul_comm q y]
  rw [Nat.mul_add, Nat.mul_add] at h1
  rw [Nat.mul_add q, h2]
  have := Nat.mul_comm c P
  omega

theorem length_trim_le (l : List Nat) : (trimL l).length ≤ l.length := by
  induction l with
  | nil => simp [trimL]
  | cons x t ih =>
    unfold trimL
    split
    · split <;> simp
    · next y u h => rw [h] at ih; simp at ih ⊢; omega

end Go.Proofs.YtemcdnppgnobmaaGreatDoor
