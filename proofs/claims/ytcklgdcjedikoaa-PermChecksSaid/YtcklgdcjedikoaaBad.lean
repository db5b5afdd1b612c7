/-
  What each call returns where its lists are no permutations.
-/
import Derived.Test.YtcklgdcjedikoaaChkI
import Derived.Test.YtcklgdcjedikoaaOrders
namespace Go.Proofs.Ytcklgdcjedikoaa
open Go.RowKit

/-- A call that returns a number, and makes memory at most. -/
def GivesC (f : Nat) (args : Array Value) (c : Int) (w : World) : Prop := Calls Try.prog f args w fun e w' => e = .returned (.int .i64 c) ∧ Below w.heap.size w w'
/-- The number, of Check, or of checkPair. -/
def Codes (f : Nat) (args : Array Value) (c : Int) (w : World) : Prop := ∀ W, Below w.heap.size w W → GivesC f args c W

theorem Codes.at {f : Nat} {args : Array Value} {c : Int} {w : World} (h : Codes f args c w) (W : World) (hW : Below w.heap.size w W) : Calls Try.prog f args W fun e w' => e = .returned (.int .i64 c) ∧ Below W.heap.size W w' := h W hW

theorem check_no {A : Option Addr} {n cap : Nat} {zs : List Int} {w : World} (hZ : Zl w A n zs) (hc : ¬ ChkP zs) : Codes 16 #[.slice A n cap] 20 w := fun W hW =>
  (check_any A n cap zs W (hZ.below hW)).mono fun _ _ ⟨h, hb⟩ => by
    rcases h with ⟨h, _⟩ | ⟨_, he⟩
    · exact absurd h hc
    · exact ⟨he, hb⟩
theorem check_yes {A : Option Addr} {n cap : Nat} {zs : List Int} {w : World} (hZ : Zl w A n zs) (hc : ChkP zs) : Codes 16 #[.slice A n cap] 0 w := fun W hW =>
  (check_any A n cap zs W (hZ.below hW)).mono fun _ _ ⟨h, hb⟩ => by
    rcases h with ⟨_, he⟩ | ⟨h, _⟩
    · exact ⟨he, hb⟩
    · exact absurd hc h

/-- What checkAll returns of two. -/
def firstOf (c d : Int) : Int := if c = 20 then 20 else d

set_option maxRecDepth 100000 in
theorem checkAll_code (g : Nat) (A : Option Addr) (n cap : Nat) (A' : Option Addr) (n' cap' : Nat) (c d : Int) (w : World) (hc : c = 0 ∨ c = 20) (hd : d = 0 ∨ d = 20)
    (h1 : Codes 16 #[.slice A n cap] c w) (h2 : Codes 16 #[.slice A' n' cap'] d w)
    (hg : g < w.heap.size) (c0 : w.cell? ⟨g, 0, none⟩ = some (.slice A n cap)) (c1 : w.cell? ⟨g, 1, none⟩ = some (.slice A' n' cap')) :
    GivesC 69 #[.slice (some ⟨g, 0, none⟩) 2 2] (firstOf c d) w := by
  unfold GivesC
  have H1 := Lib.hid h1
  have H2 := Lib.hid h2
  clear h1 h2
  go_enter Try.func69, Try.ntmps69
  go_wp2_with fail
  go_loopw [8] (fun i wr => ∃ k : Nat, k ≤ 2 ∧ i = .int .i64 k ∧ (0 < k → c = 0) ∧ (1 < k → d = 0) ∧ Below w.heap.size w wr) (fun i _ => 2 - (intOf i).toNat)
  case atStart => exact ⟨0, by omega, rfl, fun h => absurd h (by omega), fun h => absurd h (by omega), Below.refl _ _⟩
  case round =>
    obtain ⟨k, hk, rfl, hz1, hz2, hb⟩ := hrel
    have d0 := (hb.cell (p := ⟨g, 0, none⟩) hg).trans c0
    have d1 := (hb.cell (p := ⟨g, 1, none⟩) hg).trans c1
    have K1 := Lib.hid (H1.out.at wr hb)
    have K2 := Lib.hid (H2.out.at wr hb)
    clear c0 c1 H1 H2
    match k, hk with
    | 0, _ =>
      clear hz1 hz2
      rcases hc with rfl | rfl
      · go_wp2_with (go_at_call 16; refine K1.out.mono ?_; rintro e w1 ⟨rfl, hb1⟩)
        go_roundw
        case rel => exact ⟨1, by omega, rfl, fun _ => (by trivial), fun h => absurd h (by omega), hb.trans (hb1.mono hb.size)⟩
        case measure => simp [intOf]
      · go_wp2_with (go_at_call 16; refine K1.out.mono ?_; rintro e w1 ⟨rfl, hb1⟩)
        go_ret
        exact ⟨rfl, hb.trans (hb1.mono hb.size)⟩
    | 1, _ =>
      obtain rfl := hz1 (by omega)
      clear hz1 hz2
      rcases hd with rfl | rfl
      · go_wp2_with (go_at_call 16; refine K2.out.mono ?_; rintro e w1 ⟨rfl, hb1⟩)
        go_roundw
        case rel => exact ⟨2, by omega, rfl, fun _ => (by trivial), fun _ => (by trivial), hb.trans (hb1.mono hb.size)⟩
        case measure => simp [intOf]
      · go_wp2_with (go_at_call 16; refine K2.out.mono ?_; rintro e w1 ⟨rfl, hb1⟩)
        go_ret
        exact ⟨rfl, hb.trans (hb1.mono hb.size)⟩
    | 2, _ =>
      obtain rfl := hz1 (by omega)
      obtain rfl := hz2 (by omega)
      clear hz1 hz2
      go_wp2_with fail
      go_ret
      exact ⟨rfl, hb⟩

/-- What checkPair returns. -/
def pairOf (c d : Int) (n n' : Nat) : Int := if firstOf c d = 0 then (if n = n' then 0 else 7) else firstOf c d

set_option maxRecDepth 100000 in
theorem checkPair_code (A : Option Addr) (n cap : Nat) (A' : Option Addr) (n' cap' : Nat) (c d : Int) (w : World) (hc : c = 0 ∨ c = 20) (hd : d = 0 ∨ d = 20)
    (h1 : Codes 16 #[.slice A n cap] c w) (h2 : Codes 16 #[.slice A' n' cap'] d w) :
    Codes 64 #[.slice A n cap, .slice A' n' cap'] (pairOf c d n n') w := by
  intro W hW
  unfold GivesC
  have hbel := below_new' W (.cells #[.slice A n cap, .slice A' n' cap'] 22)
  have hblk := Blk.new W 22 #[.slice A n cap, .slice A' n' cap']
  have hbw := hW.trans (hbel.mono hW.size)
  have HC := Lib.hid (checkAll_code W.heap.size A n cap A' n' cap' c d _ hc hd (fun X hX => h1 X (hbw.trans (hX.mono hbw.size))) (fun X hX => h2 X (hbw.trans (hX.mono hbw.size))) hblk.lt (hblk.cell 0) (hblk.cell 1))
  have Hbel := Lib.hid hbel
  unfold GivesC at HC
  have hf : firstOf c d = 0 ∨ firstOf c d = 20 := by
    unfold firstOf
    split
    · exact Or.inr rfl
    · exact hd
  unfold pairOf
  generalize firstOf c d = x at *
  clear hbel hblk hbw h1 h2 hc hd hW
  rcases hf with rfl | rfl
  · rw [if_pos rfl]
    by_cases e : n = n'
    · subst e
      rw [if_pos rfl]
      go_enter Try.func64, Try.ntmps64
      go_wp2_with (go_at_call 69; refine HC.out.mono ?_; rintro e w1 ⟨rfl, hb1⟩)
      go_ret
      exact ⟨rfl, Hbel.out.trans (hb1.mono Hbel.out.size)⟩
    · rw [if_neg e]
      have hd : ((n : Int) != (n' : Int)) = true := by rw [bne_iff_ne]; omega
      clear e
      go_enter Try.func64, Try.ntmps64
      go_wp2_with (go_at_call 69; refine HC.out.mono ?_; rintro e w1 ⟨rfl, hb1⟩)
      go_ret
      exact ⟨rfl, Hbel.out.trans (hb1.mono Hbel.out.size)⟩
  · rw [if_neg (by decide)]
    go_enter Try.func64, Try.ntmps64
    go_wp2_with (go_at_call 69; refine HC.out.mono ?_; rintro e w1 ⟨rfl, hb1⟩)
    go_ret
    exact ⟨rfl, Hbel.out.trans (hb1.mono Hbel.out.size)⟩

/-- No list, and a code. -/
def NoList (c : Int) (w : World) (e : Ending) (w' : World) : Prop := e = .returned (.tuple #[.slice none 0 0, .int .i64 c]) ∧ Below w.heap.size w w'
/-- No, and a code. -/
def NoBool (c : Int) (w : World) (e : Ending) (w' : World) : Prop := e = .returned (.tuple #[.bool false, .int .i64 c]) ∧ Below w.heap.size w w'

theorem after_no (v v' : Value) (c : Int) (w : World) (hc : c = 7 ∨ c = 20) (h : Codes 64 #[v, v'] c w) : Calls Try.prog 17 #[v, v'] w (NoList c w) := by
  have H := Lib.hid (h.at w (Below.refl _ _))
  clear h
  rcases hc with rfl | rfl
  all_goals
    go_enter Try.func17, Try.ntmps17
    go_wp2_with (go_at_call 64; refine H.out.mono ?_; rintro e w1 ⟨rfl, hb1⟩)
    go_ret2
    exact ⟨rfl, hb1⟩
theorem join_no (v v' : Value) (c : Int) (w : World) (hc : c = 7 ∨ c = 20) (h : Codes 64 #[v, v'] c w) : Calls Try.prog 20 #[v, v'] w (NoList c w) := by
  have H := Lib.hid (h.at w (Below.refl _ _))
  clear h
  rcases hc with rfl | rfl
  all_goals
    go_enter Try.func20, Try.ntmps20
    go_wp2_with (go_at_call 64; refine H.out.mono ?_; rintro e w1 ⟨rfl, hb1⟩)
    go_ret2
    exact ⟨rfl, hb1⟩
theorem meet_no (v v' : Value) (c : Int) (w : World) (hc : c = 7 ∨ c = 20) (h : Codes 64 #[v, v'] c w) : Calls Try.prog 21 #[v, v'] w (NoList c w) := by
  have H := Lib.hid (h.at w (Below.refl _ _))
  clear h
  rcases hc with rfl | rfl
  all_goals
    go_enter Try.func21, Try.ntmps21
    go_wp2_with (go_at_call 64; refine H.out.mono ?_; rintro e w1 ⟨rfl, hb1⟩)
    go_ret2
    exact ⟨rfl, hb1⟩
theorem weak_no (v v' : Value) (c : Int) (w : World) (hc : c = 7 ∨ c = 20) (h : Codes 64 #[v, v'] c w) : Calls Try.prog 18 #[v, v'] w (NoBool c w) := by
  have H := Lib.hid (h.at w (Below.refl _ _))
  clear h
  rcases hc with rfl | rfl
  all_goals
    go_enter Try.func18, Try.ntmps18
    go_wp2_with (go_at_call 64; refine H.out.mono ?_; rintro e w1 ⟨rfl, hb1⟩)
    go_ret2
    exact ⟨rfl, hb1⟩
set_option maxRecDepth 100000 in
theorem strong_no (v v' : Value) (c : Int) (w : World) (hc : c = 7 ∨ c = 20) (h : Codes 64 #[v, v'] c w) : Calls Try.prog 19 #[v, v'] w (NoBool c w) := by
  have H := Lib.hid (h.at w (Below.refl _ _))
  clear h
  rcases hc with rfl | rfl
  all_goals
    go_enter Try.func19, Try.ntmps19
    go_wp2_with (go_at_call 64; refine H.out.mono ?_; rintro e w1 ⟨rfl, hb1⟩)
    go_ret2
    exact ⟨rfl, hb1⟩

/-- No list, no, and a code. -/
def NoBoth (c : Int) (w : World) (e : Ending) (w' : World) : Prop := e = .returned (.tuple #[.slice none 0 0, .bool false, .int .i64 c]) ∧ Below w.heap.size w w'

set_option maxRecDepth 100000 in
theorem find_no (A : Option Addr) (n cap : Nat) (A' : Option Addr) (n' cap' : Nat) (c d : Int) (w : World) (hc : c = 0 ∨ c = 20) (hd : d = 0 ∨ d = 20)
    (h1 : Codes 16 #[.slice A n cap] c w) (h2 : Codes 16 #[.slice A' n' cap'] d w) (hx : firstOf c d = 20 ∨ 6 < n') :
    Calls Try.prog 22 #[.slice A n cap, .slice A' n' cap'] w (NoBoth (if firstOf c d = 20 then 20 else 2) w) := by
  have hbel := below_new' w (.cells #[.slice A n cap, .slice A' n' cap'] 22)
  have hblk := Blk.new w 22 #[.slice A n cap, .slice A' n' cap']
  have HC := Lib.hid (checkAll_code w.heap.size A n cap A' n' cap' c d _ hc hd (fun X hX => h1 X (hbel.trans (hX.mono hbel.size))) (fun X hX => h2 X (hbel.trans (hX.mono hbel.size))) hblk.lt (hblk.cell 0) (hblk.cell 1))
  have Hbel := Lib.hid hbel
  unfold GivesC at HC
  have hf : firstOf c d = 0 ∨ firstOf c d = 20 := by
    unfold firstOf
    split
    · exact Or.inr rfl
    · exact hd
  generalize firstOf c d = x at *
  clear hbel hblk h1 h2 hc hd
  rcases hf with rfl | rfl
  · rw [if_neg (by decide)]
    have hd : decide ((n' : Int) > 6) = true := decide_eq_true (by omega)
    have hd2 : decide ((6 : Int) < n') = true := decide_eq_true (by omega)
    clear hx
    go_enter Try.func22, Try.ntmps22
    go_wp2_with (go_at_call 69; refine HC.out.mono ?_; rintro e w1 ⟨rfl, hb1⟩)
    go_ret3
    exact ⟨rfl, Hbel.out.trans (hb1.mono Hbel.out.size)⟩
  · rw [if_pos rfl]
    clear hx
    go_enter Try.func22, Try.ntmps22
    go_wp2_with (go_at_call 69; refine HC.out.mono ?_; rintro e w1 ⟨rfl, hb1⟩)
    go_ret3
    exact ⟨rfl, Hbel.out.trans (hb1.mono Hbel.out.size)⟩

/-- A number, and a code. -/
def NoNum (c : Int) (w : World) (e : Ending) (w' : World) : Prop := e = .returned (.tuple #[.int .i64 0, .int .i64 c]) ∧ Below w.heap.size w w'

theorem inverse_no (v : Value) (w : World) (h : Codes 16 #[v] 20 w) : Calls Try.prog 24 #[v] w (NoList 20 w) := by
  have H := Lib.hid (h.at w (Below.refl _ _))
  clear h
  go_enter Try.func24, Try.ntmps24
  go_wp2_with (go_at_call 16; refine H.out.mono ?_; rintro e w1 ⟨rfl, hb1⟩)
  go_ret2
  exact ⟨rfl, hb1⟩
theorem inversions_no (v : Value) (w : World) (h : Codes 16 #[v] 20 w) : Calls Try.prog 25 #[v] w (NoNum 20 w) := by
  have H := Lib.hid (h.at w (Below.refl _ _))
  clear h
  go_enter Try.func25, Try.ntmps25
  go_wp2_with (go_at_call 16; refine H.out.mono ?_; rintro e w1 ⟨rfl, hb1⟩)
  go_ret2
  exact ⟨rfl, hb1⟩
theorem code_no (v : Value) (w : World) (h : Codes 16 #[v] 20 w) : Calls Try.prog 26 #[v] w (NoList 20 w) := by
  have H := Lib.hid (h.at w (Below.refl _ _))
  clear h
  go_enter Try.func26, Try.ntmps26
  go_wp2_with (go_at_call 16; refine H.out.mono ?_; rintro e w1 ⟨rfl, hb1⟩)
  go_ret2
  exact ⟨rfl, hb1⟩
theorem rank_no (v : Value) (w : World) (h : Codes 16 #[v] 20 w) : Calls Try.prog 27 #[v] w (NoNum 20 w) := by
  have H := Lib.hid (h.at w (Below.refl _ _))
  clear h
  go_enter Try.func27, Try.ntmps27
  go_wp2_with (go_at_call 16; refine H.out.mono ?_; rintro e w1 ⟨rfl, hb1⟩)
  go_ret2
  exact ⟨rfl, hb1⟩
theorem sort_no (v : Value) (w : World) (h : Codes 16 #[v] 20 w) : Calls Try.prog 28 #[v] w fun e w' => e = .returned (.tuple #[.string ⟨#[]⟩, .bool false, .int .i64 20]) ∧ Below w.heap.size w w' := by
  have H := Lib.hid (h.at w (Below.refl _ _))
  clear h
  go_enter Try.func28, Try.ntmps28
  go_wp2_with (go_at_call 16; refine H.out.mono ?_; rintro e w1 ⟨rfl, hb1⟩)
  go_ret3
  exact ⟨rfl, hb1⟩
theorem sorts_no (v s : Value) (w : World) (h : Codes 16 #[v] 20 w) : Calls Try.prog 31 #[v, s] w fun e w' => e = .returned (.bool false) ∧ Below w.heap.size w w' := by
  have H := Lib.hid (h.at w (Below.refl _ _))
  clear h
  go_enter Try.func31, Try.ntmps31
  go_wp2_with (go_at_call 16; refine H.out.mono ?_; rintro e w1 ⟨rfl, hb1⟩)
  go_ret
  exact ⟨rfl, hb1⟩

theorem blocks_no (v : Value) (w : World) (h : Codes 16 #[v] 20 w) : Calls Try.prog 29 #[v] w fun e w' => e = .returned (.tuple #[.agg #[.int .i64 0, .slice none 0 0, .slice none 0 0], .int .i64 20]) ∧ Below w.heap.size w w' := by
  have hres := Blk.new w 43 #[.int .i64 0, .slice none 0 0, .slice none 0 0]
  have hbel0 := below_new' w (.cells #[.int .i64 0, .slice none 0 0, .slice none 0 0] 43)
  have H := Lib.hid (h.at _ hbel0)
  clear h
  go_enter Try.func29, Try.ntmps29
  go_wp2_with (go_at_call 16; refine H.out.mono ?_; rintro e w1 ⟨rfl, hb1⟩; have hres1 := (hb1.block _ hres.lt).trans hres; obtain ⟨r0, r1, r2, q0, q1, q2⟩ := blk_three hres1; have hset := ((Blk.store hres1 0 (.int .i64 0)).store 1 (.slice none 0 0)).store 2 (.slice none 0 0))
  have hset' : Blk (((w1.setCell ⟨w.heap.size, 0, none⟩ (.int .i64 0)).setCell ⟨w.heap.size, 1, none⟩ (.slice none 0 0)).setCell ⟨w.heap.size, 2, none⟩ (.slice none 0 0)) w.heap.size 43 #[.int .i64 0, .slice none 0 0, .slice none 0 0] := by simpa using hset
  obtain ⟨z0, z1, z2, -, -, -⟩ := blk_three hset'
  have hbelw := (((hbel0.trans (hb1.mono hbel0.size)).setCell (p := ⟨w.heap.size, 0, none⟩) (Nat.le_refl _) (.int .i64 0)).setCell (p := ⟨w.heap.size, 1, none⟩) (Nat.le_refl _) (.slice none 0 0)).setCell (p := ⟨w.heap.size, 2, none⟩) (Nat.le_refl _) (.slice none 0 0)
  exact bodyPost_ret (v := .tuple #[.agg #[.int .i64 0, .slice none 0 0, .slice none 0 0], .int .i64 20]) (by simp [results, Try.results29, go_sem, z0, z1, z2]) rfl ⟨rfl, hbelw⟩

/-- Four cells, as Baxter begins. -/
def Four (n0 : Nat) (v : Value) (X : World) : Prop := Boxed X n0 22 v ∧ Boxed X (n0 + 1) 22 (.slice none 0 0) ∧ Boxed X (n0 + 1 + 1) 4 (.bool false) ∧ Boxed X (n0 + 1 + 1 + 1) 25 (.int .i64 0)
def BaxNo (n0 : Nat) (z : Int) (X : World) : Prop :=
  X.heap[n0 + 1]? = some (.cells #[.slice none 0 0] 22 (0, 0)) ∧ X.heap[n0 + 2]? = some (.cells #[.bool false] 4 (0, 0)) ∧ X.heap[n0 + 3]? = some (.cells #[.int .i64 z] 25 (0, 0))
theorem BaxNo.own {β : Type} (B n0 : Nat) (z : Int) : OwnFrom B (fun (_ : β) X => BaxNo n0 z X) :=
  OwnFrom.and (Own.from (own_block_cells _ _ _) _) (OwnFrom.and (Own.from (own_block_cells _ _ _) _) (Own.from (own_block_cells _ _ _) _))
theorem Four.done {n0 : Nat} {v : Value} {V : World} (h : Four n0 v V) (z : Int) :
    BaxNo n0 z (((V.setCell ⟨n0 + 1, 0, none⟩ (.slice none 0 0)).setCell ⟨n0 + 1 + 1, 0, none⟩ (.bool false)).setCell ⟨n0 + 1 + 1 + 1, 0, none⟩ (.int .i64 z)) := by
  have q1 := Boxed.set (.slice none 0 0) h.2.1
  have q2 : Boxed _ (n0 + 1 + 1) _ _ := (Below.heap_setCell V ⟨n0 + 1, 0, none⟩ (.slice none 0 0) (n0 + 1 + 1) (by simp)).trans h.2.2.1
  have q3 : Boxed _ (n0 + 1 + 1 + 1) _ _ := (Below.heap_setCell V ⟨n0 + 1, 0, none⟩ (.slice none 0 0) (n0 + 1 + 1 + 1) (by simp <;> omega)).trans h.2.2.2
  refine ⟨?_, ?_, ?_⟩
  · exact (Below.heap_setCell _ _ _ _ (by simp <;> omega)).trans ((Below.heap_setCell _ _ _ _ (by simp)).trans q1)
  · exact (Below.heap_setCell _ _ _ _ (by simp)).trans (Boxed.set (.bool false) q2)
  · exact Boxed.set (.int .i64 z) (show Boxed _ (n0 + 1 + 1 + 1) _ _ from (Below.heap_setCell _ _ _ _ (by simp)).trans q3)

set_option maxRecDepth 100000 in
theorem baxter_no_in (v : Value) (hv : ∃ A n cap, v = .slice A n cap) (w : World) (h : Codes 16 #[v] 20 w) : CallsIn Fence.wide 100 Try.prog 30 #[v] w (NoBoth 20 w) := by
  obtain ⟨A, n, cap, rfl⟩ := hv
  refine callsIn_of_wp_marks Try.func30 rfl trivial ?_ rfl
  simp only [Try.ntmps30, List.size_toArray, List.length_cons, List.length_nil, Nat.reduceAdd, Nat.reduceSub, Array.replicate_succ, Array.replicate_zero, List.push_toArray, List.append_toArray, List.nil_append, List.cons_append]
  have hb4 : Below w.heap.size w ((((w.alloc (.cells #[.slice A n cap] 22)).alloc (.cells #[.slice none 0 0] 22)).alloc (.cells #[.bool false] 4)).alloc (.cells #[.int .i64 0] 25)) :=
    ((((Below.refl _ w).alloc (Nat.le_refl _) _).alloc (by simp) _).alloc (by simp; omega) _).alloc (by simp; omega) _
  have e1 := Boxed.new w 22 (.slice A n cap)
  have e2 := Boxed.new (w.alloc (.cells #[.slice A n cap] 22)) 22 (.slice none 0 0)
  have e3 := Boxed.new ((w.alloc (.cells #[.slice A n cap] 22)).alloc (.cells #[.slice none 0 0] 22)) 4 (.bool false)
  have e4 := Boxed.new (((w.alloc (.cells #[.slice A n cap] 22)).alloc (.cells #[.slice none 0 0] 22)).alloc (.cells #[.bool false] 4)) 25 (.int .i64 0)
  simp only [World.size_alloc] at e2 e3 e4
  have hat : Four w.heap.size (.slice A n cap) ((((w.alloc (.cells #[.slice A n cap] 22)).alloc (.cells #[.slice none 0 0] 22)).alloc (.cells #[.bool false] 4)).alloc (.cells #[.int .i64 0] 25)) := ⟨((e1.alloc _).alloc _).alloc _, (e2.alloc _).alloc _, e3.alloc _, e4⟩
  have cslice := Boxed.cell hat.1
  have hsz4 : ((((w.alloc (.cells #[.slice A n cap] 22)).alloc (.cells #[.slice none 0 0] 22)).alloc (.cells #[.bool false] 4)).alloc (.cells #[.int .i64 0] 25)).heap.size = w.heap.size + 4 := by simp
  have H := Lib.hid (h.at _ hb4)
  have Hb4 := Lib.hid hb4
  have Hat := Lib.hid hat
  have Hsz4 := Lib.hid hsz4
  clear h hb4 hat hsz4 e1 e2 e3 e4
  gi_wp2_with (refine ⟨trivial, ?_⟩; gi_at_call 16; refine (callsIn_wide.2 H.out).mono ?_; rintro e w1 ⟨rfl, hb1⟩; have hs1 := hb1.size; rw [Hsz4.out] at hs1; have hbel1 : Below w.heap.size w w1 := Hb4.out.trans (hb1.mono (by rw [Hsz4.out]; omega)); have h4 : Four w.heap.size (.slice A n cap) w1 := ⟨(hb1.block _ (by rw [Hsz4.out]; omega)).trans Hat.out.1, (hb1.block _ (by rw [Hsz4.out]; omega)).trans Hat.out.2.1, (hb1.block _ (by rw [Hsz4.out]; omega)).trans Hat.out.2.2.1, (hb1.block _ (by rw [Hsz4.out]; omega)).trans Hat.out.2.2.2⟩; have r1 := Boxed.cell h4.2.1; have r2 := Boxed.cell h4.2.2.1; have r3 := Boxed.cell h4.2.2.2; have f1 := Boxed.frozen h4.2.1; have f2 := Boxed.frozen h4.2.2.1; have f3 := Boxed.frozen h4.2.2.2; have H4 := Lib.hid h4; clear hb1 h4)
  refine leaves_marks (B := w.heap.size) (T := fun X => BaxNo w.heap.size 20 X ∧ Below w.heap.size w X) (fun X D hB hD h => ⟨(BaxNo.own (β := Unit) w.heap.size w.heap.size 20).putObj (s := ()) _ h.1 hB hD rfl, h.2.trans (belowK_b (w := w) (Nat.le_refl _) X D _ _ hB hD rfl rfl)⟩) (fun X h => ?_) [] _
    (Marked.nil _ _)
    ⟨H4.out.done 20, ((hbel1.setCell (p := ⟨w.heap.size + 1, 0, none⟩) (by simp) _).setCell (p := ⟨w.heap.size + 1 + 1, 0, none⟩) (by simp <;> omega) _).setCell (p := ⟨w.heap.size + 1 + 1 + 1, 0, none⟩) (by simp <;> omega) _⟩
  have c1 := Boxed.cell h.1.1
  have c2 : _ = some (Value.bool false) := Boxed.cell (B := w.heap.size + 1 + 1) h.1.2.1
  have c3 : _ = some (Value.int .i64 20) := Boxed.cell (B := w.heap.size + 1 + 1 + 1) h.1.2.2
  exact ⟨.tuple #[.slice none 0 0, .bool false, .int .i64 20], by simp [results, Try.f30, go_sem, c1, c2, c3], rfl, h.2⟩

theorem baxter_no (A : Option Addr) (n cap : Nat) (w : World) (h : Codes 16 #[.slice A n cap] 20 w) : Calls Try.prog 30 #[.slice A n cap] w (NoBoth 20 w) :=
  callsIn_wide.1 (baxter_no_in _ ⟨A, n, cap, rfl⟩ w h)

end Go.Proofs.Ytcklgdcjedikoaa
