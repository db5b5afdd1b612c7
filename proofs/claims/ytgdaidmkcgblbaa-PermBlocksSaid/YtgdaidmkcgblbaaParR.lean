/-
  The walks of the reference's all and pattern.
  The walk of the reference's parts, given what Blocks returns of shorter lists.
-/
import Derived.Test.YtgdaidmkcgblbaaBloM
import Derived.Test.YtgdaidmkcgblbaaTame
import Derived.Test.YtgdaidmkcgblbaaEqu
set_option linter.unusedVariables false
namespace Go.Proofs.Ytgdaidmkcgblbaa
open Go.RowKit

theorem allB_one {p : List Nat} {a : Nat} : allB p a 1 = true ↔ ∀ i j, i < a → a ≤ j → j < p.length → p.getD i 0 < p.getD j 0 := by
  rw [allB_iff]
  exact ⟨fun h i j h1 h2 h3 => (h i j h1 h2 h3).2 rfl, fun h i j h1 h2 h3 => ⟨fun _ => rfl, fun _ => h i j h1 h2 h3⟩⟩
theorem allB_two {p : List Nat} {a : Nat} : allB p a 2 = true ↔ ∀ i j, i < a → a ≤ j → j < p.length → ¬ p.getD i 0 < p.getD j 0 := by
  rw [allB_iff]
  exact ⟨(fun h i j h1 h2 h3 hlt => by have := (h i j h1 h2 h3).1 hlt; cases this), fun h i j h1 h2 h3 => ⟨fun hlt => absurd hlt (h i j h1 h2 h3), (fun e => by cases e)⟩⟩

set_option maxRecDepth 100000 in
set_option maxHeartbeats 2000000 in
theorem rall_one (bk off n cap : Nat) (p : List Nat) (a : Nat) (w : World) (hS : Sl .i64 w (some ⟨bk, off, none⟩) n p) (ha : a ≤ n) (hn : n ≤ 60) (hb : ∀ i, p.getD i 0 ≤ 1000) :
    Calls Try.prog 84 #[.slice (some ⟨bk, off, none⟩) n cap, .int .i64 a, .int .i64 1] w fun e w' => e = .returned (.bool (allB p a 1)) ∧ Below w.heap.size w w' := by
  have hl := hS.len
  subst hl
  have HS := Lib.hid hS
  have Hb := Lib.hid hb
  have Hyes : Hid ((∀ i j, i < a → a ≤ j → j < p.length → p.getD i 0 < p.getD j 0) → allB p a 1 = true) := fun h => allB_one.2 h
  have Hno : Hid (∀ i j, i < a → a ≤ j → j < p.length → ¬ (p.getD i 0 < p.getD j 0) → allB p a 1 = false) := fun i j h1 h2 h3 h4 => Bool.eq_false_iff.2 fun h => h4 (allB_one.1 h i j h1 h2 h3)
  generalize allB p a 1 = R at *
  clear hS hb
  go_enter Try.func84, Try.ntmps84
  go_wp2_with fail
  go_loopw [7] (fun iv wr => ∃ i : Nat, i ≤ a ∧ iv = .int .i64 i ∧ Hid (∀ x j, x < i → a ≤ j → j < p.length → p.getD x 0 < p.getD j 0) ∧ Below w.heap.size w wr) (fun iv _ => a - (intOf iv).toNat)
  case atStart => exact ⟨0, Nat.zero_le _, rfl, (fun x j h => absurd h (Nat.not_lt_zero _)), Below.refl _ _⟩
  case round =>
    obtain ⟨i, hi, rfl, Hall, hbel⟩ := hrel
    have Hbel := Lib.hid hbel
    clear hbel
    by_cases hlt : i < a
    · have hii : (i : Int) < (a : Int) := by omega
      go_wp2_with fail
      go_loopw [8] (fun kv wr => ∃ k : Nat, a ≤ k ∧ k ≤ p.length ∧ kv = .int .i64 k ∧ Hid (∀ j, a ≤ j → j < k → p.getD i 0 < p.getD j 0) ∧ Below w.heap.size w wr) (fun kv _ => p.length - (intOf kv).toNat)
      case atStart => exact ⟨a, Nat.le_refl _, ha, rfl, (fun j h1 h2 => absurd h2 (by omega)), Hbel.out⟩
      case round =>
        obtain ⟨k, hk1, hk2, rfl, Hall2, hbel2⟩ := hrel
        have Hbel2 := Lib.hid hbel2
        clear hbel2
        by_cases hkl : k < p.length
        · have hki : (k : Int) < (p.length : Int) := by omega
          have ci := (HS.out.below Hbel2.out)
          obtain ⟨_, _, e', _, hc⟩ := ci.at (by omega)
          injection e' with e'
          injection e' with e1 e2
          subst e1 e2
          have c1 := hc i (by omega)
          have c2 := hc k hkl
          have Hn1 := Lib.hid (Hno.out i k hlt hk1 hkl)
          have Hst : Hid ((p.getD i 0 < p.getD k 0) → Hid (∀ j, a ≤ j → j < k + 1 → p.getD i 0 < p.getD j 0)) := fun h j h1 h2 => by
            rcases Nat.lt_or_ge j k with g | g
            · exact Hall2.out j h1 g
            · obtain rfl : j = k := by omega
              exact h
          clear hc ci
          generalize p.getD i 0 = x at *
          generalize p.getD k 0 = y at *
          by_cases hxy : x < y
          · have hxi : (x : Int) < (y : Int) := by omega
            have Hs2 := Hst.out hxy
            go_wp2_with fail
            go_quiet (fail)
            go_wp2_with fail
            go_roundw
            case rel => exact ⟨k + 1, by omega, by omega, by go_num, Hs2, below_drewN Hbel2.out _⟩
            case measure => simp [intOf]; omega
          · have hxi : ¬ (x : Int) < (y : Int) := by omega
            have e : Hid (R = false) := Hn1.out (by omega)
            go_wp2_with fail
            go_quiet (fail)
            go_wp2_with fail
            go_ret
            exact ⟨by rw [e.out]; rfl, below_drewN Hbel2.out _⟩
        · obtain rfl : k = p.length := by omega
          have Hn2 : Hid (∀ x j, x < i + 1 → a ≤ j → j < p.length → p.getD x 0 < p.getD j 0) := fun x j h1 h2 h3 => by
            rcases Nat.lt_or_ge x i with g | g
            · exact Hall.out x j g h2 h3
            · obtain rfl : x = i := by omega
              exact Hall2.out j h2 h3
          go_wp2_with fail
          go_roundw
          case rel => exact ⟨i + 1, by omega, by go_num, Hn2, Hbel2.out⟩
          case measure => simp [intOf]; omega
    · obtain rfl : i = a := by omega
      have e : Hid (R = true) := Hyes.out Hall.out
      go_wp2_with fail
      go_ret
      exact ⟨by rw [e.out]; rfl, Hbel.out⟩

set_option maxRecDepth 100000 in
set_option maxHeartbeats 2000000 in
theorem rall_two (bk off n cap : Nat) (p : List Nat) (a : Nat) (w : World) (hS : Sl .i64 w (some ⟨bk, off, none⟩) n p) (ha : a ≤ n) (hn : n ≤ 60) (hb : ∀ i, p.getD i 0 ≤ 1000) :
    Calls Try.prog 84 #[.slice (some ⟨bk, off, none⟩) n cap, .int .i64 a, .int .i64 2] w fun e w' => e = .returned (.bool (allB p a 2)) ∧ Below w.heap.size w w' := by
  have hl := hS.len
  subst hl
  have HS := Lib.hid hS
  have Hb := Lib.hid hb
  have Hyes : Hid ((∀ i j, i < a → a ≤ j → j < p.length → ¬ p.getD i 0 < p.getD j 0) → allB p a 2 = true) := fun h => allB_two.2 h
  have Hno : Hid (∀ i j, i < a → a ≤ j → j < p.length → ¬ (¬ p.getD i 0 < p.getD j 0) → allB p a 2 = false) := fun i j h1 h2 h3 h4 => Bool.eq_false_iff.2 fun h => h4 (allB_two.1 h i j h1 h2 h3)
  generalize allB p a 2 = R at *
  clear hS hb
  go_enter Try.func84, Try.ntmps84
  go_wp2_with fail
  go_loopw [7] (fun iv wr => ∃ i : Nat, i ≤ a ∧ iv = .int .i64 i ∧ Hid (∀ x j, x < i → a ≤ j → j < p.length → ¬ p.getD x 0 < p.getD j 0) ∧ Below w.heap.size w wr) (fun iv _ => a - (intOf iv).toNat)
  case atStart => exact ⟨0, Nat.zero_le _, rfl, (fun x j h => absurd h (Nat.not_lt_zero _)), Below.refl _ _⟩
  case round =>
    obtain ⟨i, hi, rfl, Hall, hbel⟩ := hrel
    have Hbel := Lib.hid hbel
    clear hbel
    by_cases hlt : i < a
    · have hii : (i : Int) < (a : Int) := by omega
      go_wp2_with fail
      go_loopw [8] (fun kv wr => ∃ k : Nat, a ≤ k ∧ k ≤ p.length ∧ kv = .int .i64 k ∧ Hid (∀ j, a ≤ j → j < k → ¬ p.getD i 0 < p.getD j 0) ∧ Below w.heap.size w wr) (fun kv _ => p.length - (intOf kv).toNat)
      case atStart => exact ⟨a, Nat.le_refl _, ha, rfl, (fun j h1 h2 => absurd h2 (by omega)), Hbel.out⟩
      case round =>
        obtain ⟨k, hk1, hk2, rfl, Hall2, hbel2⟩ := hrel
        have Hbel2 := Lib.hid hbel2
        clear hbel2
        by_cases hkl : k < p.length
        · have hki : (k : Int) < (p.length : Int) := by omega
          have ci := (HS.out.below Hbel2.out)
          obtain ⟨_, _, e', _, hc⟩ := ci.at (by omega)
          injection e' with e'
          injection e' with e1 e2
          subst e1 e2
          have c1 := hc i (by omega)
          have c2 := hc k hkl
          have Hn1 := Lib.hid (Hno.out i k hlt hk1 hkl)
          have Hst : Hid ((¬ p.getD i 0 < p.getD k 0) → Hid (∀ j, a ≤ j → j < k + 1 → ¬ p.getD i 0 < p.getD j 0)) := fun h j h1 h2 => by
            rcases Nat.lt_or_ge j k with g | g
            · exact Hall2.out j h1 g
            · obtain rfl : j = k := by omega
              exact h
          clear hc ci
          generalize p.getD i 0 = x at *
          generalize p.getD k 0 = y at *
          by_cases hxy : x < y
          · have hxi : (x : Int) < (y : Int) := by omega
            have e : Hid (R = false) := Hn1.out (by omega)
            go_wp2_with fail
            go_quiet (fail)
            go_wp2_with fail
            go_ret
            exact ⟨by rw [e.out]; rfl, below_drewN Hbel2.out _⟩
          · have hxi : ¬ (x : Int) < (y : Int) := by omega
            have Hs2 := Hst.out hxy
            go_wp2_with fail
            go_quiet (fail)
            go_wp2_with fail
            go_roundw
            case rel => exact ⟨k + 1, by omega, by omega, by go_num, Hs2, below_drewN Hbel2.out _⟩
            case measure => simp [intOf]; omega
        · obtain rfl : k = p.length := by omega
          have Hn2 : Hid (∀ x j, x < i + 1 → a ≤ j → j < p.length → ¬ p.getD x 0 < p.getD j 0) := fun x j h1 h2 h3 => by
            rcases Nat.lt_or_ge x i with g | g
            · exact Hall.out x j g h2 h3
            · obtain rfl : x = i := by omega
              exact Hall2.out j h2 h3
          go_wp2_with fail
          go_roundw
          case rel => exact ⟨i + 1, by omega, by go_num, Hn2, Hbel2.out⟩
          case measure => simp [intOf]; omega
    · obtain rfl : i = a := by omega
      have e : Hid (R = true) := Hyes.out Hall.out
      go_wp2_with fail
      go_ret
      exact ⟨by rw [e.out]; rfl, Hbel.out⟩

theorem lessN_take (l : List Nat) (v j : Nat) (h : j < l.length) : lessN (l.take (j + 1)) v = lessN (l.take j) v + if l.getD j 0 < v then 1 else 0 := by
  rw [take_snoc l j h, lessN_append]
  congr 1
  unfold lessN
  by_cases e : l.getD j 0 < v
  · rw [if_pos e]; simp only [List.countP_cons, List.countP_nil, e]; simp
  · rw [if_neg e]; simp only [List.countP_cons, List.countP_nil, e]; simp
theorem lessN_le (l : List Nat) (v : Nat) : lessN l v ≤ l.length := List.countP_le_length
theorem patR_take (l : List Nat) (i : Nat) (h : i < l.length) : (patR l).take (i + 1) = (patR l).take i ++ [lessN l (l.getD i 0)] := by
  unfold patR
  rw [← List.map_take, ← List.map_take, take_snoc l i h, List.map_append]
  rfl

set_option maxRecDepth 100000 in
set_option maxHeartbeats 2000000 in
theorem rpattern_any (A : Option Addr) (n cap : Nat) (p : List Nat) (w : World) (hS : Sl .i64 w A n p) (hn : n ≤ 60) (hb : ∀ i, p.getD i 0 ≤ 1000) :
    Calls Try.prog 87 #[.slice A n cap] w (RetRowV (patR p) w) := by
  have hl := hS.len
  subst hl
  obtain ⟨i1, hinf1, hy0, hy1, hy2⟩ := info_parts info_int'
  have HS := Lib.hid hS
  have Hb := Lib.hid hb
  have Hpl : Hid ((patR p).length = p.length) := List.length_map _
  have Htk := Lib.hid (patR_take p)
  have Hle := Lib.hid (fun v => lessN_le p v)
  have Hnx := Lib.hid (fun v j h => lessN_take p v j h)
  have H0 := Lib.hid (fun v => show lessN (p.take 0) v = 0 from rfl)
  have Hal : Hid (∀ v, lessN (p.take p.length) v = lessN p v) := fun v => by rw [List.take_length]
  have Hlj : Hid (∀ v j, lessN (p.take j) v ≤ 60) := fun v j => Nat.le_trans (lessN_le _ v) (by rw [List.length_take]; omega)
  clear hS hb
  generalize hP : patR p = P at *
  clear hP
  go_enter Try.func87, Try.ntmps87
  go_wp2_with fail
  go_loopw [3, 4] (fun v iv wr => ∃ i : Nat, i ≤ p.length ∧ iv = .int .i64 i ∧ wr.ownsRow w.heap.size 3 1 v i (nums .i64 (P.take i)) ∧ Below w.heap.size w wr) (fun _ iv _ => p.length - (intOf iv).toNat)
  case atStart => exact ⟨0, Nat.zero_le _, rfl, ⟨rfl, .inl ⟨rfl, rfl⟩⟩, Below.refl _ _⟩
  case round =>
    obtain ⟨i, hi, rfl, hown, hbel⟩ := hrel
    have Hown := Lib.hid hown
    have Hbel := Lib.hid hbel
    clear hown hbel
    by_cases hlt : i < p.length
    · have hii : (i : Int) < (p.length : Int) := by omega
      go_wp2_with fail
      obtain ⟨wo, rfl⟩ : ∃ wo : World, wo = wr := ⟨_, rfl⟩
      go_loopw [5, 6] (fun c jv wr => ∃ j : Nat, j ≤ p.length ∧ jv = .int .i64 j ∧ c = .int .i64 (lessN (p.take j) (p.getD i 0) : Nat) ∧ Drew wo wr) (fun _ jv _ => p.length - (intOf jv).toNat)
      case atStart => exact ⟨0, Nat.zero_le _, rfl, by rw [H0.out]; rfl, Drew.refl _⟩
      case round =>
        obtain ⟨j, hj, rfl, rfl, q, rfl⟩ := hrel
        by_cases hjl : j < p.length
        · have hji : (j : Int) < (p.length : Int) := by omega
          obtain ⟨bk, off, rfl, _, hc⟩ := (HS.out.below Hbel.out).at (by omega)
          have c1 := hc i hlt
          have c2 := hc j hjl
          have Hs := Lib.hid (Hnx.out (p.getD i 0) j hjl)
          have h60 := Hlj.out (p.getD i 0) j
          clear hc
          generalize lessN (p.take j) (p.getD i 0) = cn at *
          generalize p.getD i 0 = x at *
          generalize p.getD j 0 = y at *
          by_cases hxy : y < x
          · have hxi : (y : Int) < (x : Int) := by omega
            have e : Hid (lessN (p.take (j + 1)) x = cn + 1) := by show _ = _; rw [Hs.out, if_pos hxy]
            go_wp2_with fail
            go_quiet (fail)
            go_wp2_with fail
            go_roundw
            case rel => exact ⟨j + 1, by omega, by go_num, by rw [e.out]; go_num, (by first | exact ⟨_, rfl⟩ | exact Drew.drewN ⟨_, rfl⟩ _)⟩
            case measure => simp [intOf]; omega
          · have hxi : ¬ (y : Int) < (x : Int) := by omega
            have e : Hid (lessN (p.take (j + 1)) x = cn) := by show _ = _; rw [Hs.out, if_neg hxy, Nat.add_zero]
            go_wp2_with fail
            go_quiet (fail)
            go_wp2_with fail
            go_roundw
            case rel => exact ⟨j + 1, by omega, by go_num, by rw [e.out], (by first | exact ⟨_, rfl⟩ | exact Drew.drewN ⟨_, rfl⟩ _)⟩
            case measure => simp [intOf]; omega
        · obtain hje : j = p.length := by omega
          have e : lessN (p.take j) (p.getD i 0) = lessN p (p.getD i 0) := by rw [hje]; exact Hal.out _
          rw [e]
          have h60 := Hle.out (p.getD i 0)
          have Hadd : Hid (nums .i64 (P.take i) ++ [.int .i64 ((lessN p (p.getD i 0) : Nat) : Int)] = nums .i64 (P.take (i + 1))) := by
            show _ = _
            rw [nums_snoc, Htk.out i hlt]
          clear e
          generalize lessN p (p.getD i 0) = cn at *
          have hji : ¬ (j : Int) < (p.length : Int) := by omega
          clear hje
          have Hown2 : Hid ((wo.drewN q).ownsRow w.heap.size 3 1 _ i (nums .i64 (P.take i))) := Hown.out
          have Hbel2 := Lib.hid (below_drewN Hbel.out q)
          generalize wo.drewN q = X at *
          have hsz : w.heap.size ≤ X.heap.size := Hbel2.out.size
          go_wp2_with (at_builtin; refine wpList_append_own _ rfl _ _ 22 rfl w.heap.size 3 i1 (.int .i64 0) 1 8 Try.underlying22 hinf1 hy0 hy1 hy2 rfl (by decide) _ _ _ rfl (Hown2.out.alloc _) ⟨X.heap.size, 0, none⟩ 1 1 [.int .i64 (cn : Int)] rfl rfl ?c1 ?c2 ?c3 ?c4 ?c5 ?_)
          case c2 => rfl
          case c3 => unfold maxLen; omega
          case c4 => omega
          case c5 => omega
          intro v' w1 hown' hgrow _
          have hb' := Hbel2.out.trans (own_below Hown2.out hsz hgrow)
          rw [Hadd.out] at hown'
          go_wp2_with fail
          go_roundw
          case rel => exact ⟨i + 1, by omega, by go_num, hown', hb'⟩
          case measure => simp [intOf]; omega
    · obtain hie : i = p.length := by omega
      have hii : ¬ (i : Int) < (p.length : Int) := by omega
      have Hie := Lib.hid hie
      clear hie
      go_wp2_with fail
      go_ret
      have := Hown.out
      rw [Hie.out, List.take_of_length_le (by rw [Hpl.out]; exact Nat.le_refl _)] at this
      exact ⟨_, rfl, by rw [Hpl.out]; exact this, Hbel.out⟩

end Go.Proofs.Ytgdaidmkcgblbaa

namespace Go.Proofs.Ytgdaidmkcgblbaa
open Go.RowKit

theorem info_rtree : (Try.prog.info? 64).map (fun i => (i.zero, i.size, i.bytes)) = some (some (.agg #[.int .i64 0, .slice none 0 0, .slice none 0 0]), 3, 56) := by kernel_rfl

/-- What a loop keeps that lets a tree in g5 grow, part by part. -/
structure GrowRel (T : TypeId) (S : Nat → Prop) (X0 : World) (g5 : Nat) (kind : Int) (d : Nat) (pa : Option Addr) (pn pc : Nat) (ts : List IT) (k : Nat) (v : Value) (w wr : World) : Prop where
  tree : Blk wr g5 T #[.int .i64 kind, .slice pa pn pc, v]
  own : ∃ xs, wr.ownsRow X0.heap.size T 3 v k xs ∧ PartsS S X0.heap.size d v ts xs wr
  size : X0.heap.size ≤ wr.heap.size
  old : ∀ i, i < X0.heap.size → i ≠ g5 → wr.heap[i]? = X0.heap[i]?
  bel : Below w.heap.size w wr

theorem GrowRel.next {T : TypeId} {S : Nat → Prop} {X0 w wr w2 w3 : World} {g5 d k gg cg : Nat} {kind : Int} {pa : Option Addr} {pn pc : Nat} {v pv sv : Value} {ts : List IT} {t : IT} {xs : List Value} {o : Obj} (hT : GrowRel T S X0 g5 kind d pa pn pc ts k v w wr) (hX5 : g5 < X0.heap.size) (hw5 : w.heap.size ≤ g5) (hwX : w.heap.size ≤ X0.heap.size)
    (hS : ∀ g, S g → g < w.heap.size)
    (hown2 : wr.ownsRow X0.heap.size T 3 v k xs) (hparts : PartsS S X0.heap.size d v ts xs wr)
    (hb2 : Below wr.heap.size wr w2) (hown3 : w2.ownsRow X0.heap.size T 3 v k xs) (hgrow : (w2.alloc o).grownBy w3 v.ownBlock) (hB3 : Blk w3 g5 T #[.int .i64 kind, .slice pa pn pc, v])
    (ht : ITS w2 (Old S wr.heap.size w2.heap.size) d t pv sv) (hat : v.ownBlock = some gg ∨ gg = w2.heap.size + 1)
    (hown4 : w3.ownsRow X0.heap.size T 3 (.slice (some ⟨gg, 0, none⟩) (k + 1) cg) (k + 1) (xs ++ [.int .i64 t.kind, pv, sv])) :
    GrowRel T S X0 g5 kind d pa pn pc (ts ++ [t]) (k + 1) (.slice (some ⟨gg, 0, none⟩) (k + 1) cg) w (w3.setCell ⟨g5, 2, none⟩ (.slice (some ⟨gg, 0, none⟩) (k + 1) cg)) := by
  have hs2 : wr.heap.size ≤ w2.heap.size := hb2.size
  have hb3 := own_below hown3 (Nat.le_trans hT.size hs2) hgrow
  have hb3w := own_below (own_base hown3 hwX) (Nat.le_trans hwX (Nat.le_trans hT.size hs2)) hgrow
  have hgg : X0.heap.size ≤ gg := by
    obtain ⟨hl, ⟨e1, h0⟩ | ⟨g, cap, cur, e1, hb, _⟩⟩ := hown4
    · omega
    · injection e1 with e1 e2 e3
      injection e1 with e1
      injection e1 with e1
      omega
  have hpn := hparts.next (k := k) (cg := cg) (g5 := g5) (i5 := 2) (u := .slice (some ⟨gg, 0, none⟩) (k + 1) cg) (fun g hg => by have := hS g hg; omega) hX5 hT.size (fun g hg => (hown2.lt g hg).1) (fun g hg => (hown2.lt g hg).2) hb2 ht hgrow hat
  refine ⟨?_, ⟨_, own_same hown4 fun g hg => ?_, hpn⟩, ?_, fun i hi hne => ?_, ?_⟩
  · have := hB3.store 2 (.slice (some ⟨gg, 0, none⟩) (k + 1) cg)
    simpa using this
  · obtain rfl : gg = g := by simpa [Value.ownBlock] using hg
    exact Below.heap_setCell _ _ _ _ (by simp; omega)
  · have := hb3.size
    have := hT.size
    simp [World.setCell]; omega
  · have e1 : w3.heap[i]? = w2.heap[i]? := hb3.block i hi
    have e2 : w2.heap[i]? = wr.heap[i]? := hb2.block i (Nat.lt_of_lt_of_le hi hT.size)
    exact (Below.heap_setCell _ _ _ _ hne).trans (e1.trans (e2.trans (hT.old i hi hne)))
  · exact ((hT.bel.trans (hb2.mono hT.bel.size)).trans hb3w).setCell hw5 _

/-- A tree of so many levels is returned, in new blocks. -/
def RetNew (d : Nat) (t : IT) (w : World) (e : Ending) (w' : World) : Prop :=
  ∃ pa pn pc A n c, e = .returned (.agg #[.int .i64 t.kind, .slice pa pn pc, .slice A n c]) ∧ ITIn w' w.heap.size w'.heap.size d t (.slice pa pn pc) (.slice A n c) ∧ Below w.heap.size w w'

/-- What Blocks returns of the lists of m elements. -/
def BlocksOf (m : Nat) : Prop := ∀ (bk off cap : Nat) (p : List Nat) (w : World), Sl .i64 w (some ⟨bk, off, none⟩) m p → IsPerm p → 1 ≤ m → m ≤ 60 → m ≤ cap → cap ≤ 9223372036854775807 →
  Calls Try.prog 51 #[.slice (some ⟨bk, off, none⟩) m cap] w (RetNew m (toIT m (treeF m p)) w)

theorem perm_bound {p : List Nat} (h : IsPerm p) (hl : p.length ≤ 60) : ∀ i, p.getD i 0 ≤ 1000 := perm_le h hl

/-- What parts returns. -/
def RetParts' (S : Nat → Prop) (d : Nat) (t : IT) (w : World) (e : Ending) (w' : World) : Prop :=
  ∃ pa pn pc A n c, e = .returned (.agg #[.int .i64 t.kind, .slice pa pn pc, .slice A n c]) ∧ ITS w' (Old S w.heap.size w'.heap.size) d t (.slice pa pn pc) (.slice A n c) ∧ Below w.heap.size w w'

theorem part_tree {p : List Nat} {N s e : Nat} (hN : p.length = N + 1) (h1 : s < e) (h2 : e ≤ p.length) (h3 : e - s < p.length) (hg : Gapless (seg p s e)) :
    IsPerm (patR (seg p s e)) ∧ (patR (seg p s e)).length = e - s ∧ toIT N (treeF N (seg p s e)) = toIT (e - s) (treeF (e - s) (patR (seg p s e))) := by
  have hl := seg_length p s e (Nat.le_of_lt h1) h2
  rw [patR_gapless hg]
  refine ⟨norm_isPerm hg, by rw [norm_length, hl], ?_⟩
  rw [treeF_norm _ (by omega), treeF_len N N (seg p s e) (by omega) (by omega) (by omega), toIT_len N N _ (by omega) (by omega) (by omega), hl]

set_option maxRecDepth 100000 in
set_option maxHeartbeats 8000000 in
theorem rparts_any (N : Nat) (ih : ∀ m, m ≤ N → BlocksOf m) (S : Nat → Prop) (bk off cap : Nat) (p : List Nat) (A : Option Addr) (m capC : Nat) (C : List Nat) (K : Int) (pa : Option Addr) (pl pc : Nat) (L : List Int) (w : World)
    (hS : Sl .i64 w (some ⟨bk, off, none⟩) (N + 1) p) (hC : Sl .i64 w A (m + 1) C) (hm : m ≤ 60) (hN : N < 60) (hcap : N + 1 ≤ cap) (hcap9 : cap ≤ 9223372036854775807) (hp : PermS w S L (.slice pa pl pc)) (hSw : ∀ g, S g → g < w.heap.size) (hb : ∀ i, p.getD i 0 ≤ 1000)
    (hrow : ∀ i, i < m → C.getD i 0 < C.getD (i + 1) 0 ∧ C.getD (i + 1) 0 ≤ N + 1 ∧ C.getD (i + 1) 0 - C.getD i 0 < N + 1 ∧ Gapless (seg p (C.getD i 0) (C.getD (i + 1) 0))) :
    Calls Try.prog 85 #[.slice (some ⟨bk, off, none⟩) (N + 1 : Nat) cap, .slice A (m + 1 : Nat) capC, .agg #[.int .i64 K, .slice pa pl pc, .slice none 0 0]] w
      (RetParts' S (N + 1) (.node K L ((pairsOf C).map fun x => toIT N (treeF N (seg p x.1 x.2)))) w) := by
  obtain ⟨i0, hi, hz0, hz1, hz2⟩ := info_parts info_rtree
  have hpl := hS.len
  have hCl := hC.len
  have hprl : (pairsOf C).length = m := by rw [pairsOf_length, hCl]; omega
  obtain ⟨TS, hTS⟩ : ∃ TS, TS = (pairsOf C).map fun x => toIT N (treeF N (seg p x.1 x.2)) := ⟨_, rfl⟩
  have hTl : TS.length = m := by rw [hTS, List.length_map, hprl]
  have Hround : Hid (∀ k, k < m → ∃ (s e : Nat) (u : IT) (q : List Nat), C.getD k 0 = s ∧ C.getD (k + 1) 0 = e ∧ s < e ∧ e ≤ N + 1 ∧ e - s ≤ N ∧ TS.take (k + 1) = TS.take k ++ [u] ∧ patR (seg p s e) = q ∧ IsPerm q ∧ q.length = e - s ∧ u = toIT (e - s) (treeF (e - s) q)) := fun k hk => by
    obtain ⟨h1, h2, h3, h4⟩ := hrow k hk
    obtain ⟨q1, q2, q3⟩ := part_tree hpl h1 (by omega) (by omega) h4
    refine ⟨_, _, TS[k]'(by omega), _, rfl, rfl, h1, h2, by omega, List.take_succ_eq_append_getElem (by omega), rfl, q1, q2, ?_⟩
    rw [← q3]
    have hk' : k < (pairsOf C).length := by omega
    have e1 : (pairsOf C)[k] = (C.getD k 0, C.getD (k + 1) 0) := by
      have := pairsOf_get C k (by omega)
      rwa [List.getD_eq_getElem?_getD, List.getElem?_eq_getElem hk'] at this
    simp only [hTS, List.getElem_map, e1]
  rw [← hTS]
  obtain ⟨W1, hW1⟩ : ∃ W1, W1 = w.alloc (.cells #[.int .i64 K, .slice pa pl pc, .slice none 0 0] 64) := ⟨_, rfl⟩
  have a1 : Below w.heap.size w W1 := by rw [hW1]; exact below_new' w _
  have a2 : Blk W1 w.heap.size 64 #[.int .i64 K, .slice pa pl pc, .slice none 0 0] := by rw [hW1]; exact Blk.new w _ _
  have a3 : W1.heap.size = w.heap.size + 1 := by rw [hW1]; exact size_new' w _
  obtain ⟨X0, hX0⟩ : ∃ X0, X0 = W1.alloc (.cells #[.int .i64 0, .slice none 0 0, .slice none 0 0] 64) := ⟨_, rfl⟩
  have b1 : Below w.heap.size w X0 := by rw [hX0]; exact a1.alloc a1.size _
  have b2 : Blk X0 w.heap.size 64 #[.int .i64 K, .slice pa pl pc, .slice none 0 0] := by rw [hX0]; exact Blk.more' a2 _
  have b3 : Blk X0 (w.heap.size + 1) 64 #[.int .i64 0, .slice none 0 0, .slice none 0 0] := by rw [hX0, ← a3]; exact Blk.new W1 _ _
  have b4 : X0.heap.size = w.heap.size + 2 := by rw [hX0, size_new', a3]
  have hwX : w.heap.size ≤ X0.heap.size := by omega
  have hg5 : w.heap.size < X0.heap.size := by omega
  have hg6 : w.heap.size + 1 < X0.heap.size := by omega
  have Hpat := Lib.hid (fun (s e : Nat) (W : World) (hW : Below w.heap.size w W) (h1 : s < e) (h2 : e ≤ N + 1) => rpattern_any (some ⟨bk, off + s, none⟩) (e - s) (cap - s) (seg p s e) W ((hS.below hW).seg s e (by omega) h2) (by omega) (fun i => by
    by_cases hi : i < e - s
    · rw [seg_get p s e i hi]; exact hb _
    · unfold seg; rw [List.getD_eq_getElem?_getD, List.getElem?_eq_none (by rw [List.length_take]; omega)]; exact Nat.zero_le _))
  have Hih := Lib.hid ih
  have HS := Lib.hid hS
  have HC := Lib.hid hC
  have Hp := Lib.hid hp
  have HSw := Lib.hid hSw
  have Hb1 := Lib.hid b1
  have Hb2 := Lib.hid b2
  have Hb3 := Lib.hid b3
  clear ih hS hC hp hSw hb b1 b2 b3 b4 a1 a2 hrow hTS hprl hpl hCl
  go_enter Try.func85, Try.ntmps85
  go_upto_region 1 with fail
  rw [← hW1, ← hX0]
  clear hW1 hX0 a3
  go_wp2_with fail
  go_loopw [7] (fun iv wr => ∃ (k : Nat) (v : Value), k ≤ m ∧ iv = .int .i64 k ∧ GrowRel 64 S X0 w.heap.size K N pa pl pc (TS.take k) k v w wr) (fun iv _ => m - (intOf iv).toNat)
  case atStart => exact ⟨0, _, Nat.zero_le _, rfl, Hb2.out, ⟨[], ⟨rfl, .inl ⟨rfl, rfl⟩⟩, PartsS.nil _ _ _ _ _⟩, Nat.le_refl _, fun _ _ _ => rfl, Hb1.out⟩
  case round =>
    obtain ⟨k, v, hk, rfl, hT⟩ := hrel
    obtain ⟨xs, hown2, hpar⟩ := hT.own
    have hresr : Blk wr (w.heap.size + 1) 64 #[.int .i64 0, .slice none 0 0, .slice none 0 0] := (hT.old _ hg6 (by omega)).trans Hb3.out
    obtain ⟨r0, r1, r2, q0, q1, q2⟩ := blk_three hresr
    obtain ⟨t0, t1, t2, s0, s1, s2⟩ := blk_three hT.tree
    have HT := Lib.hid hT
    have Hown2 := Lib.hid hown2
    have Hpar := Lib.hid hpar
    have Hresr := Lib.hid hresr
    by_cases hlt : k < m
    · have hki : (k : Int) < (m : Int) := by omega
      obtain ⟨s, e, u, q, e1, e2, h1, h2, h3, eT, eq, hq, hql, eu⟩ := Hround.out k hlt
      have hbel := hT.bel
      obtain ⟨gC, oC, rfl, hgC, hcC⟩ := HC.out.at (by omega)
      have hgCw : gC < w.heap.size := hgC
      have c1 := (hbel.cell (p := ⟨gC, oC + k, none⟩) hgCw).trans (hcC k (by omega))
      have c2 := (hbel.cell (p := ⟨gC, oC + (k + 1), none⟩) hgCw).trans (hcC (k + 1) (by omega))
      rw [e1] at c1
      rw [e2] at c2
      have Hpq : Hid (∀ W, Below wr.heap.size wr W → Calls Try.prog 87 #[.slice (some ⟨bk, off + s, none⟩) (e - s) (cap - s)] W fun ee w' => ∃ g c, ee = .returned (.slice (some ⟨g, 0, none⟩) (e - s) c) ∧ Sl .i64 w' (some ⟨g, 0, none⟩) (e - s) q ∧ (e - s ≤ c ∧ c ≤ 9223372036854775807) ∧ Below W.heap.size W w') := fun W hW => by
        refine (Hpat.out s e W (hbel.trans (hW.mono hbel.size)) h1 h2).mono fun ee w' h => ?_
        obtain ⟨vv, he, hown, hbb⟩ := h
        rw [eq, hql] at hown
        obtain ⟨g, c, rfl⟩ := own_pos hown (by omega)
        have hcc := own_cap hown
        exact ⟨g, c, he, own_sl hown (by omega), hcc, hbb⟩
      have Hbl := Lib.hid (fun (g c : Nat) (W : World) (hW : Sl .i64 W (some ⟨g, 0, none⟩) (e - s) q) (h5 : e - s ≤ c) (h6 : c ≤ 9223372036854775807) => Hih.out (e - s) h3 g 0 c q W hW hq (by omega) (by omega) h5 h6)
      unfold RetNew at Hbl
      rw [← eu] at Hbl
      have HeT := Lib.hid eT
      have h47 : (k + 1) * 56 ≤ 140737488355328 := by omega
      have h63 : k + 1 ≤ maxLen := by unfold maxLen; omega
      have Hownd : Hid (wr.drew.ownsRow X0.heap.size 64 3 v k xs) := Hown2.out
      have hTd : Blk wr.drew w.heap.size 64 #[.int .i64 K, .slice pa pl pc, v] := hT.tree
      have HTd := Lib.hid hTd
      have hse : s ≤ e := Nat.le_of_lt h1
      have hec : e ≤ cap := by omega
      have hsw : s ≤ 60 := by omega
      have hew : e ≤ 60 := by omega
      clear hT hown2 hpar hresr hcC e1 e2 eq hq hql eu Hround Hih Hpat eT hbel t0 t1 r0 r1 r2 q0 q1 q2 s0 s1
      go_upto_region 5 with fail
      have hsi : (s : Int) ≤ (e : Int) := by omega
      have hei : (e : Int) ≤ (cap : Int) := by omega
      have hki2 : (k : Int) < (m : Int) + 1 := by omega
      have hw1 : IntKind.i64.wrap ((k : Int) + 1) = (k : Int) + 1 := IntWalk.i64_in _ (by omega)
      have hn1 : ((k : Int) + 1).toNat = k + 1 := by omega
      have hzk : (0 : Int) ≤ (k : Int) + 1 := by omega
      have hes : ((e : Int) - (s : Int)).toNat = e - s := by omega
      have hsc : s ≤ cap := by omega
      have hcs : ¬ cap = s := by omega
      obtain ⟨S5, HS1, HS2⟩ : ∃ S5 : World → Prop, Hid (∀ W, S5 W → W.cell? ⟨gC, oC + k, none⟩ = some (.int .i64 (s : Nat)) ∧ W.cell? ⟨gC, oC + (k + 1), none⟩ = some (.int .i64 (e : Nat))) ∧ Hid (∀ W, Below w.heap.size wr W → S5 W) :=
        ⟨fun W => _, Lib.hid (fun _ h => h), Lib.hid (fun W hW => ⟨(hW.cell (p := ⟨gC, oC + k, none⟩) hgCw).trans c1, (hW.cell (p := ⟨gC, oC + (k + 1), none⟩) hgCw).trans c2⟩)⟩
      clear c1 c2
      have hwwr : w.heap.size ≤ wr.heap.size := Nat.le_trans hwX HT.out.size
      have Hbd : Hid (Below wr.heap.size wr wr.drew) := (Below.refl _ _).drew
      refine wp_region_held_drew (S := S5) (by kernel_rfl) (HS2.out _ (Hbd.out.mono hwwr)) (fun hHeld => ?_)
      refine wpAnyH_take (i := 0) (v := v) rfl (by kernel_rfl) (by kernel_rfl) (by kernel_rfl) (fun _ _ _ h => h) (Or.inl ⟨by kernel_rfl, fun W hW => by go_simp⟩) hHeld ?_
      go_simp
      refine wpAnyH_take (i := 1) (v := .slice (some ⟨bk, off, none⟩) (N + 1) cap) rfl (by kernel_rfl) (by kernel_rfl) (by kernel_rfl) (fun _ _ _ h => h) (Or.inl ⟨by kernel_rfl, fun W hW => by go_simp⟩) hHeld ?_
      go_simp
      refine wpAnyH_take (i := 2) (v := .slice (some ⟨gC, oC, none⟩) (m + 1) capC) rfl (by kernel_rfl) (by kernel_rfl) (by kernel_rfl) (fun _ _ _ h => h) (Or.inl ⟨by kernel_rfl, fun W hW => by go_simp⟩) hHeld ?_
      go_simp
      refine wpAnyH_take (i := 3) (v := .int .i64 k) rfl (by kernel_rfl) (by kernel_rfl) (by kernel_rfl) (fun _ _ _ h => h) (Or.inl ⟨by kernel_rfl, fun W hW => by go_simp⟩) hHeld ?_
      go_simp
      refine wpAnyH_take (i := 4) (v := .pointer (some ⟨gC, oC + k, none⟩)) rfl (by kernel_rfl) (by kernel_rfl) (by kernel_rfl) (fun _ _ _ h => h) (Or.inl ⟨by kernel_rfl, fun W hW => by go_simp⟩) hHeld ?_
      go_simp
      refine wpAnyH_take (i := 5) (v := .int .i64 (s : Nat)) rfl (by kernel_rfl) (by kernel_rfl) (by kernel_rfl) (fun _ _ _ h => h) (Or.inl ⟨by kernel_rfl, fun W hW => by obtain ⟨d1, d2⟩ := HS1.out W hW; go_simp⟩) hHeld ?_
      go_simp
      refine wpAnyH_take (i := 6) (v := .slice (some ⟨gC, oC, none⟩) (m + 1) capC) rfl (by kernel_rfl) (by kernel_rfl) (by kernel_rfl) (fun _ _ _ h => h) (Or.inl ⟨by kernel_rfl, fun W hW => by go_simp⟩) hHeld ?_
      go_simp
      refine wpAnyH_take (i := 7) (v := .int .i64 k) rfl (by kernel_rfl) (by kernel_rfl) (by kernel_rfl) (fun _ _ _ h => h) (Or.inl ⟨by kernel_rfl, fun W hW => by go_simp⟩) hHeld ?_
      go_simp
      refine wpAnyH_take (i := 8) (v := .int .i64 ((k : Int) + 1)) rfl (by kernel_rfl) (by kernel_rfl) (by kernel_rfl) (fun _ _ _ h => h) (Or.inl ⟨by kernel_rfl, fun W hW => by go_simp⟩) hHeld ?_
      go_simp
      refine wpAnyH_take (i := 9) (v := .pointer (some ⟨gC, oC + (k + 1), none⟩)) rfl (by kernel_rfl) (by kernel_rfl) (by kernel_rfl) (fun _ _ _ h => h) (Or.inl ⟨by kernel_rfl, fun W hW => by go_simp⟩) hHeld ?_
      go_simp
      refine wpAnyH_take (i := 10) (v := .int .i64 (e : Nat)) rfl (by kernel_rfl) (by kernel_rfl) (by kernel_rfl) (fun _ _ _ h => h) (Or.inl ⟨by kernel_rfl, fun W hW => by obtain ⟨d1, d2⟩ := HS1.out W hW; go_simp⟩) hHeld ?_
      go_simp
      refine wpAnyH_take (i := 11) (v := .slice (some ⟨bk, off + s, none⟩) (e - s) (cap - s)) rfl (by kernel_rfl) (by kernel_rfl) (by kernel_rfl) (fun _ _ _ h => h) (Or.inl ⟨by kernel_rfl, fun W hW => by go_simp⟩) hHeld ?_
      go_simp
      refine wpAnyH_ready (rs := [12]) (by kernel_rfl) (by simp) (AllReadyH.cons rfl (fun K' hK => ?_) AllReadyH.nil)
      rw [if_pos (by kernel_rfl)]
      go_simp
      refine (Hpq.out _ Hbd.out).mono ?_
      rintro ee w2 ⟨gq, cq, rfl, hSq, hcq, hb2⟩
      dsimp only
      have Hb2 := Lib.hid (Hbd.out.trans (hb2.mono Hbd.out.size))
      refine hK.out _ _ (HS2.out _ (Hb2.out.mono hwwr)) (fun hHeld => ?_)
      clear hb2
      refine wpAnyH_ready (rs := [13]) (by kernel_rfl) (by simp) (AllReadyH.cons rfl (fun K' hK => ?_) AllReadyH.nil)
      rw [if_pos (by kernel_rfl)]
      go_simp
      refine (Hbl.out gq cq _ hSq hcq.1 hcq.2).mono ?_
      rintro ee w3 ⟨pa', pn', pc', A', n', c', rfl, hIT3, hb3⟩
      dsimp only
      have Hb3w := Lib.hid (Hb2.out.trans (hb3.mono Hb2.out.size))
      refine hK.out _ _ (HS2.out _ (Hb3w.out.mono hwwr)) (fun hHeld => ?_)
      have HIT3 := Lib.hid hIT3
      have Hs23 := Lib.hid Hb2.out.size
      clear hSq hIT3 hb3
      have hown3 : w3.ownsRow X0.heap.size 64 3 v k xs := own_keep Hown2.out Hb3w.out
      have hsz3 : wr.heap.size ≤ w3.heap.size := Hb3w.out.size
      have hB3 := HT.out.tree.below Hb3w.out HT.out.tree.lt
      generalize hU : u.kind = U at *
      have HU := Lib.hid hU
      clear hU
      refine wpAnyH_ready (rs := [14]) (by kernel_rfl) (by simp) (AllReadyH.cons rfl (fun K' hK => ?_) AllReadyH.nil)
      rw [if_pos (by kernel_rfl)]
      go_simp
      refine hK.out _ _ (HS2.out _ ((Hb3w.out.mono hwwr).alloc (Nat.le_trans hwwr hsz3) _)) (fun hHeld => ?_)
      refine wpAnyH_ready (rs := [15]) (by kernel_rfl) (by simp) (AllReadyH.cons rfl (fun K' hK => ?_) AllReadyH.nil)
      refine step_append_lies _ rfl _ _ _ rfl X0.heap.size 64 i0 _ 3 56 Try.underlying62 hi hz0 hz1 hz2 rfl (Nat.succ_pos 2) v k xs rfl (hown3.alloc _) ⟨w3.heap.size, 0, none⟩ 1 1 [.int .i64 U, .slice pa' pn' pc', .slice A' n' c'] rfl rfl (World.news_of_block (cs := #[.int .i64 U, .slice pa' pn' pc', .slice A' n' c']) (t := 64) (fr := (0, 0)) (heap_alloc_new w3 _)) (three_cells _ _ _ rfl rfl rfl) Nat.one_pos h63 h47 (alloc_size_le _ _ (Nat.le_trans HT.out.size hsz3)) (w3.heap.size + 1) (size_new' _ _) ?_
      intro gg cg w4 hown4 hgrow hat hlt3
      have hB4 : Blk w4 w.heap.size 64 #[.int .i64 K, .slice pa pl pc, v] := (hgrow.block w.heap.size (hB3.more' _).lt (own_not hown3 hg5)).trans (hB3.more' _)
      have hb4 := own_below (own_base hown3 hwX) (Nat.le_trans hwwr hsz3) hgrow
      have kc4 := hB4.cell 2
      have kf4 := hB4.free 2
      have Hb4 := Lib.hid ((Hb3w.out.mono hwwr).trans hb4)
      refine hK.out _ _ (HS2.out _ Hb4.out) (fun hHeld => ?_)
      go_simp
      refine wpAnyH_take (i := 16) (v := .pointer (some ⟨w.heap.size, 2, none⟩)) rfl (by kernel_rfl) (by kernel_rfl) (by kernel_rfl) (fun _ _ _ h => h) (Or.inl ⟨by kernel_rfl, fun W hW => by go_simp⟩) hHeld ?_
      go_simp
      refine wpAnyH_ready (rs := [17]) (by kernel_rfl) (by simp) (AllReadyH.cons rfl (fun K' hK => ?_) AllReadyH.nil)
      rw [if_pos (by kernel_rfl)]
      go_simp
      refine hK.out _ _ (HS2.out _ (Hb4.out.setCell (Nat.le_refl _) _)) (fun hHeld => ?_)
      go_simp
      refine wpAnyH_done (by kernel_rfl) ?_ _
      have hits := ITS.fuel _ N _ _ _ h3 (ITS.keep (S' := Old S wr.heap.size w3.heap.size) (fun g hg => ⟨.inr ⟨Nat.le_trans Hs23.out hg.1, hg.2⟩, rfl⟩) _ _ _ _ (ITIn.toS _ _ _ _ HIT3.out))
      have hfin := HT.out.next hg5 (Nat.le_refl _) hwX HSw.out Hown2.out Hpar.out Hb3w.out hown3 hgrow hB4 hits hat (by rw [HU.out]; exact hown4)
      rw [← HeT.out] at hfin
      have Hfin := Lib.hid hfin
      clear hfin hits hown4 hgrow hat hown3 HIT3 Hb3w Hb2 hB3 hHeld hK
      go_simp
      go_wp2_with fail
      go_roundw
      case rel => exact ⟨k + 1, _, by omega, by go_num, Hfin.out⟩
      case measure => simp [intOf]; omega
    · obtain hkq : k = m := by omega
      have hki : ¬ (k : Int) < (m : Int) := by omega
      rw [hkq, List.take_of_length_le (by rw [hTl]; exact Nat.le_refl _)] at hT hpar
      obtain ⟨A2, c2, rfl⟩ := own_slice hown2
      have hbelr := hT.bel
      have hset := ((hresr.store 0 (.int .i64 K)).store 1 (.slice pa pl pc)).store 2 (.slice A2 k c2)
      have hset' : Blk (((wr.setCell ⟨w.heap.size + 1, 0, none⟩ (.int .i64 K)).setCell ⟨w.heap.size + 1, 1, none⟩ (.slice pa pl pc)).setCell ⟨w.heap.size + 1, 2, none⟩ (.slice A2 k c2)) (w.heap.size + 1) 64 #[.int .i64 K, .slice pa pl pc, .slice A2 k c2] := by simpa using hset
      have hbelf := ((hbelr.setCell (p := ⟨w.heap.size + 1, 0, none⟩) (Nat.le_succ _) (.int .i64 K)).setCell (p := ⟨w.heap.size + 1, 1, none⟩) (Nat.le_succ _) (.slice pa pl pc)).setCell (p := ⟨w.heap.size + 1, 2, none⟩) (Nat.le_succ _) (.slice A2 k c2)
      obtain ⟨z0, z1, z2, -, -, -⟩ := blk_three hset'
      have hkf : ∀ g, g ≠ w.heap.size + 1 → (((wr.setCell ⟨w.heap.size + 1, 0, none⟩ (.int .i64 K)).setCell ⟨w.heap.size + 1, 1, none⟩ (.slice pa pl pc)).setCell ⟨w.heap.size + 1, 2, none⟩ (.slice A2 k c2)).heap[g]? = wr.heap[g]? := fun g hg =>
        (Below.heap_setCell _ _ _ _ hg).trans ((Below.heap_setCell _ _ _ _ hg).trans (Below.heap_setCell _ _ _ _ hg))
      have hzf : (((wr.setCell ⟨w.heap.size + 1, 0, none⟩ (.int .i64 K)).setCell ⟨w.heap.size + 1, 1, none⟩ (.slice pa pl pc)).setCell ⟨w.heap.size + 1, 2, none⟩ (.slice A2 k c2)).heap.size = wr.heap.size := by simp [World.setCell]
      have hpf : PermS (((wr.setCell ⟨w.heap.size + 1, 0, none⟩ (.int .i64 K)).setCell ⟨w.heap.size + 1, 1, none⟩ (.slice pa pl pc)).setCell ⟨w.heap.size + 1, 2, none⟩ (.slice A2 k c2)) (Old S w.heap.size (((wr.setCell ⟨w.heap.size + 1, 0, none⟩ (.int .i64 K)).setCell ⟨w.heap.size + 1, 1, none⟩ (.slice pa pl pc)).setCell ⟨w.heap.size + 1, 2, none⟩ (.slice A2 k c2)).heap.size) L (.slice pa pl pc) :=
        Hp.out.keep (fun g hg => ⟨.inl hg, (hkf g (by have := HSw.out g hg; omega)).trans (hbelr.block g (HSw.out g hg))⟩)
      have hwhole := hpar.tree (kind := K) (S' := Old S w.heap.size (((wr.setCell ⟨w.heap.size + 1, 0, none⟩ (.int .i64 K)).setCell ⟨w.heap.size + 1, 1, none⟩ (.slice pa pl pc)).setCell ⟨w.heap.size + 1, 2, none⟩ (.slice A2 k c2)).heap.size) (by rw [hTl, ← hkq]; exact hown2) hg6 (fun g hg => ⟨by have := HSw.out g hg; omega, .inl hg⟩) hkf (fun g h1 h2 => .inr ⟨by omega, by rw [hzf]; exact h2⟩) hpf
      have Hwhole := Lib.hid hwhole
      have Hbelf := Lib.hid hbelf
      clear hown2 hT hpar hresr hset hset' hbelr hkf hzf hpf hwhole hbelf hkq
      go_wp2_with fail
      exact bodyPost_ret (v := .agg #[.int .i64 K, .slice pa pl pc, .slice A2 k c2]) (by simp [results, Try.results85, go_sem, z0, z1, z2]) rfl ⟨pa, pl, pc, A2, k, c2, rfl, Hwhole.out, Hbelf.out⟩

end Go.Proofs.Ytgdaidmkcgblbaa
