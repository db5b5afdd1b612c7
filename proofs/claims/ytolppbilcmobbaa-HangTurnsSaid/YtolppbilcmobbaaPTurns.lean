/-
  The walk of HangTurns.
-/
import Derived.Test.YtolppbilcmobbaaTurnD
import Derived.Test.YtolppbilcmobbaaAwake
namespace Go.Proofs.Ytolppbilcmobbaa
open Go.RowKit Go.Shelf

/-- What the second half of the program's Turned must be, by the reference's words. -/
theorem turn_true {u v : List Nat} (hu : IsWord u) (hv : IsWord v) {i : Nat} (h : rotL (loopL (redL u)) i = loopL (redL v)) :
    decide (redL (turnL (redL u) (redL v) i ++ (u ++ invL (turnL (redL u) (redL v) i))) = redL v) = true := by
  have ha := red_word hu
  have hb := red_word hv
  have key := turned_eqv ha hb h
  have wX : IsWord (handleL (redL v) ++ (invL ((loopL (redL u)).take i) ++ invL (handleL (redL u)))) := (handle_word hb).append ((invL_word ((loop_word ha).take i)).append (invL_word (handle_word ha)))
  unfold turnL
  generalize handleL (redL v) ++ (invL ((loopL (redL u)).take i) ++ invL (handleL (redL u))) = X at *
  apply decide_eq_true
  have wr := red_word wX
  have e1 : Eqv (redL X) X := eqv_red wX
  have e2 : Eqv (invL (redL X)) (invL X) := Eqv.inv wr wX e1
  have e3 : Eqv (u ++ invL (redL X)) (redL u ++ invL X) := Eqv.append hu ha (invL_word wr) (invL_word wX) (eqv_red hu).symm e2
  have e4 : Eqv (redL X ++ (u ++ invL (redL X))) (X ++ (redL u ++ invL X)) := Eqv.append wr wX (hu.append (invL_word wr)) (ha.append (invL_word wX)) e1 e3
  exact (e4.trans key).trans (eqv_red hv)
theorem turnL_word {a b : List Nat} (ha : IsWord a) (hb : IsWord b) (i : Nat) : IsWord (turnL a b i) := red_word ((handle_word hb).append ((invL_word ((loop_word ha).take i)).append (invL_word (handle_word ha))))
theorem turnL_length {a b : List Nat} (i : Nat) : (turnL a b i).length ≤ b.length + a.length + a.length := by
  unfold turnL
  refine Nat.le_trans (redL_length _) ?_
  rw [List.length_append, List.length_append, invL_length, invL_length]
  unfold handleL
  have := loopL_length a
  rw [List.length_take, List.length_take, List.length_take]
  omega
theorem turnL_red {a b : List Nat} (ha : IsWord a) (hb : IsWord b) (i : Nat) : redL (turnL a b i) = turnL a b i := red_red ((handle_word hb).append ((invL_word ((loop_word ha).take i)).append (invL_word (handle_word ha))))

/-- What Turned returns, whatever the words are. -/
def TurnRes (a b : List Nat) (s : ByteArray) (o : Bool) (n : Int) : Prop :=
  n = (chk2 a b : Nat) ∧ (chk2 a b ≠ 0 → s = ⟨#[]⟩ ∧ o = false) ∧ (chk2 a b = 0 → (o = true → SameLoop (redL a) (redL b) ∧ ∃ i, rotL (loopL (redL a)) i = loopL (redL b) ∧ s = strL (turnL (redL a) (redL b) i)) ∧ (o = false → s = ⟨#[]⟩ ∧ ¬ SameLoop (redL a) (redL b)))

/-- The calls of the reference about a word by which one word is turned into another one. -/
structure TurnC (a b X : ByteArray) : Prop where
  turns : ∀ W, Calls Try.prog 33 #[.string a, .string b] W fun e w' => e = .returned (.bool true) ∧ Below W.heap.size W w'
  chk : ∀ W, Calls Try.prog 23 #[.string X] W fun e w' => e = .returned (.int .i64 0) ∧ w' = W
  red : ∀ W, Calls Try.prog 18 #[.string X] W fun e w' => e = .returned (.string X) ∧ Below W.heap.size W w'
  ist : ∀ W, Calls Try.prog 34 #[.string a, .string b, .string X] W fun e w' => e = .returned (.bool true) ∧ Below W.heap.size W w'

theorem turn_calls {a b X : ByteArray} (ha : a.size ≤ 100) (hb : b.size ≤ 100) (hc : chk2 (lettersOf a) (lettersOf b) = 0) (hS : SameLoop (redL (lettersOf a)) (redL (lettersOf b))) {i : Nat} (hi : rotL (loopL (redL (lettersOf a))) i = loopL (redL (lettersOf b))) (hX : X = strL (turnL (redL (lettersOf a)) (redL (lettersOf b)) i)) : TurnC a b X := by
  have hla := lettersOf_length a
  have hlb := lettersOf_length b
  have hca : checkN (lettersOf a) = 0 := by unfold chk2 at hc; split at hc <;> assumption
  have hcb : checkN (lettersOf b) = 0 := by unfold chk2 at hc; rw [if_pos hca] at hc; exact hc
  have hwa := (checkN_zero hca).1
  have hwb := (checkN_zero hcb).1
  have hwX := turnL_word (red_word hwa) (red_word hwb) i
  have hlX := turnL_length (a := redL (lettersOf a)) (b := redL (lettersOf b)) i
  have hra := redL_length (lettersOf a)
  have hrb := redL_length (lettersOf b)
  have hrX := turnL_red (red_word hwa) (red_word hwb) i
  have htt := turn_true hwa hwb hi
  subst hX
  generalize turnL (redL (lettersOf a)) (redL (lettersOf b)) i = l at *
  have hl : lettersOf (strL l) = l := letters_strL hwX.lt256
  refine ⟨fun W => ?_, fun W => ?_, fun W => ?_, fun W => ?_⟩
  · refine (rturns_any a b W hwa hwb (by omega) (by omega)).mono ?_
    rintro e w' ⟨r, rfl, hr, hb⟩
    rw [hr.2 hS]
    exact ⟨rfl, hb⟩
  · have h := rcheck_any (strL l) W (by rw [strL_size]; omega)
    rwa [hl, checkN_word hwX (by omega)] at h
  · have h := rreduce_any (strL l) W (by rw [hl]; exact hwX) (by rw [strL_size]; omega)
    rwa [hl, hrX] at h
  · have h := risturned_any (lettersOf a) (lettersOf b) l W hwa hwb hwX (by omega) (by omega) (by omega)
    rwa [strL_letters, strL_letters, htt] at h

theorem noturn_calls {a b : ByteArray} (ha : a.size ≤ 100) (hb : b.size ≤ 100) (hc : chk2 (lettersOf a) (lettersOf b) = 0) (hS : ¬ SameLoop (redL (lettersOf a)) (redL (lettersOf b))) (W : World) :
    Calls Try.prog 33 #[.string a, .string b] W fun e w' => e = .returned (.bool false) ∧ Below W.heap.size W w' := by
  have hca : checkN (lettersOf a) = 0 := by unfold chk2 at hc; split at hc <;> assumption
  have hcb : checkN (lettersOf b) = 0 := by unfold chk2 at hc; rw [if_pos hca] at hc; exact hc
  refine (rturns_any a b W (checkN_zero hca).1 (checkN_zero hcb).1 (by omega) (by omega)).mono ?_
  rintro e w' ⟨r, rfl, hr, hb⟩
  have : r = false := by
    cases r
    · rfl
    · exact absurd (hr.1 rfl) hS
  subst this
  exact ⟨rfl, hb⟩

theorem turned_res (a b : ByteArray) (m : Int) (W : World) (ha : a.size ≤ 100) (hb : b.size ≤ 100) (hm : W.cell? ⟨0, 0, none⟩ = some (.int .i64 m)) (hw0 : 0 < W.heap.size) :
    Calls Try.prog 32 #[.string a, .string b] W fun e w' => ∃ s o n, e = .returned (.tuple #[.string s, .bool o, .int .i64 n]) ∧ TurnRes (lettersOf a) (lettersOf b) s o n ∧ Below W.heap.size W w' := by
  by_cases hc : chk2 (lettersOf a) (lettersOf b) = 0
  · have hca : checkN (lettersOf a) = 0 := by unfold chk2 at hc; split at hc <;> assumption
    have hcb : checkN (lettersOf b) = 0 := by unfold chk2 at hc; rw [if_pos hca] at hc; exact hc
    refine (turnedOf_any a b m W (by omega) (by omega) hca hcb hm hw0).mono ?_
    rintro e w' ⟨X, ok, rfl, h1, h2, hb⟩
    refine ⟨X, ok, 0, rfl, ⟨by rw [hc]; rfl, fun h => absurd hc h, fun _ => ⟨fun ho => ?_, h2⟩⟩, hb⟩
    obtain ⟨i, hi, hr, hX, hl⟩ := h1 ho
    exact ⟨⟨hl, i, hi, hr⟩, i, hr, hX⟩
  · refine (turned_bad a b W (by omega) (by omega) hc).mono ?_
    rintro e w' ⟨rfl, hb⟩
    exact ⟨_, _, _, rfl, ⟨rfl, fun _ => ⟨rfl, rfl⟩, fun h => absurd h hc⟩, hb⟩

set_option maxRecDepth 100000 in
set_option maxHeartbeats 4000000 in
theorem hangTurns_walk (u v : ByteArray) (by' : Int) (m : Int) (w : World) (hby : -9223372036854775808 ≤ by' ∧ by' ≤ 9223372036854775807) (hm : w.cell? ⟨0, 0, none⟩ = some (.int .i64 m)) (hw0 : 0 < w.heap.size) :
    Calls Try.prog 7 #[.string u, .string v, .int .i64 by'] w fun e w' => e = .returned (.bool true) ∧ Below w.heap.size w w' := by
  have Haw := Lib.hid (fun W (hW : Below w.heap.size w W) => awake_any m W ((hW.cell (p := ⟨0, 0, none⟩) hw0).trans hm) (Nat.lt_of_lt_of_le hw0 hW.size))
  have HTu : Hid (∀ W : World, Calls Try.prog 25 #[.string u, .int .i64 2, .int .i64 14] W fun e w' => e = .returned (.string (strL (textL 2 ((lettersOf u).take 14)))) ∧ Below W.heap.size W w') := fun W => text_any u 2 14 W (by omega) (by omega) (by omega)
  have HTv : Hid (∀ W : World, Calls Try.prog 25 #[.string v, .int .i64 2, .int .i64 14] W fun e w' => e = .returned (.string (strL (textL 2 ((lettersOf v).take 14)))) ∧ Below W.heap.size W w') := fun W => text_any v 2 14 W (by omega) (by omega) (by omega)
  have Hm := Lib.hid hm
  have Hw0 := Lib.hid hw0
  have Hby := Lib.hid hby
  have hwx : IsWord (textL 2 ((lettersOf u).take 14)) := textL_word _ (by omega) (by omega)
  have hwy : IsWord (textL 2 ((lettersOf v).take 14)) := textL_word _ (by omega) (by omega)
  have hlx : (textL 2 ((lettersOf u).take 14)).length ≤ 14 := by unfold textL; rw [List.length_map, List.length_take]; omega
  have hly : (textL 2 ((lettersOf v).take 14)).length ≤ 14 := by unfold textL; rw [List.length_map, List.length_take]; omega
  generalize textL 2 ((lettersOf u).take 14) = tx at *
  generalize textL 2 ((lettersOf v).take 14) = ty at *
  have Htx := Lib.hid hwx
  have Hty := Lib.hid hwy
  have Hlx := Lib.hid hlx
  have Hly := Lib.hid hly
  clear hm hw0 hby hwx hwy hlx hly
  go_enter Try.func7, Try.ntmps7
  go_upto_region 1 with fail
  go_cut [7, 8] (fun x y wx => ∃ a b : ByteArray, x = .string a ∧ y = .string b ∧ a.size ≤ 100 ∧ b.size ≤ 100 ∧ Drew w wx)
  case first =>
    go_quiet (fail)
    go_wp2_with fail
    go_meet
    exact ⟨_, _, rfl, rfl, by rw [ByteArray.size_extract]; omega, by rw [ByteArray.size_extract]; omega, ⟨nq, rfl⟩⟩
  case rest =>
    obtain ⟨a, b, rfl, rfl, ha, hb, hd⟩ := hcut
    have hbel0 : Below w.heap.size w wc := hd.below
    clear hd
    go_wp2_with fail
    go_loopw [7, 8, 9] (fun x y kv wr => ∃ (k : Nat) (a b : ByteArray), k ≤ 3 ∧ kv = .int .i64 k ∧ x = .string a ∧ y = .string b ∧ a.size ≤ 100 ∧ b.size ≤ 100 ∧ Below w.heap.size w wr) (fun _ _ kv _ => 3 - (intOf kv).toNat)
    case atStart => exact ⟨0, a, b, by omega, rfl, rfl, rfl, ha, hb, hbel0⟩
    case round =>
      clear ha hb hbel0 a b
      obtain ⟨k, a, b, hk, rfl, rfl, rfl, ha, hb, hbel⟩ := hrel
      have Hbel := Lib.hid hbel
      by_cases hlt : k < 3
      · have hki : (k : Int) < 3 := by omega
        have hla := lettersOf_length a
        have hlb := lettersOf_length b
        have HC1 : Hid (∀ W, Calls Try.prog 23 #[.string a] W fun e w' => e = .returned (.int .i64 (checkN (lettersOf a))) ∧ w' = W) := fun W => rcheck_any a W (by omega)
        have HC2 : Hid (∀ W, Calls Try.prog 23 #[.string b] W fun e w' => e = .returned (.int .i64 (checkN (lettersOf b))) ∧ w' = W) := fun W => rcheck_any b W (by omega)
        have HT := Lib.hid (turned_res a b m wr ha hb ((hbel.cell (p := ⟨0, 0, none⟩) Hw0.out).trans Hm.out) (Nat.lt_of_lt_of_le Hw0.out hbel.size))
        clear hbel
        go_upto_region 5 with fail
        go_cut [10, 11, 12] (fun X ok z wx => ∃ (s : ByteArray) (o : Bool) (n : Int), X = .string s ∧ ok = .bool o ∧ z = .int .i64 n ∧ TurnRes (lettersOf a) (lettersOf b) s o n ∧ Below w.heap.size w wx)
        case first =>
          go_wp2_with (go_at_call 32; refine HT.out.mono ?_; clear HT; rintro e w1 ⟨s1, o1, n1, rfl, hT1, hb1⟩)
          go_meet
          exact ⟨s1, o1, n1, rfl, rfl, rfl, hT1, Hbel.out.trans (hb1.mono Hbel.out.size)⟩
        case rest =>
          clear HT
          obtain ⟨s1, o1, n1, rfl, rfl, rfl, hT1, hb1⟩ := hcut
          have Hb1 := Lib.hid hb1
          have HT1 := Lib.hid hT1
          obtain ⟨Z, hZ⟩ : ∃ Z : Int, Z = (chk2 (lettersOf a) (lettersOf b) : Nat) := ⟨_, rfl⟩
          have HZ := Lib.hid hZ
          clear hZ
          clear hb1 hT1
          go_upto_region 6 with fail
          go_cut [13] (fun v wx => v = .int .i64 (checkN (lettersOf a) : Nat) ∧ Below w.heap.size w wx)
          case first =>
            go_wp2_with (go_at_call 23; refine (HC1.out _).mono ?_; rintro e w2 ⟨rfl, rfl⟩)
            go_meet
            exact ⟨rfl, Hb1.out⟩
          case rest =>
            obtain ⟨rfl, hb2⟩ := hcut
            have Hb2 := Lib.hid hb2
            clear hb2 Hb1
            go_upto_if 39 with (fail)
            go_cut [13] (fun v wx => v = .int .i64 Z ∧ Below w.heap.size w wx)
            case first =>
              by_cases hca : checkN (lettersOf a) = 0
              · have h2 : Z = (checkN (lettersOf b) : Int) := by rw [HZ.out]; unfold chk2; rw [if_pos hca]
                rw [hca]
                go_wp2_with (go_at_call 23; refine (HC2.out _).mono ?_; rintro e w2 ⟨rfl, rfl⟩)
                go_meet
                exact ⟨by rw [h2], Hb2.out⟩
              · have h2 : Z = (checkN (lettersOf a) : Int) := by rw [HZ.out]; unfold chk2; rw [if_neg hca]
                have h0 : ¬ (checkN (lettersOf a) : Int) = 0 := by omega
                go_wp2_with fail
                go_meet
                exact ⟨by rw [h2], Hb2.out⟩
            case rest =>
              obtain ⟨rfl, hb3⟩ := hcut
              have Hb3 := Lib.hid hb3
              clear hb3 Hb2 HC1 HC2
              go_upto_if 43 with (fail)
              go_cut [9] (fun v wx => v = .int .i64 k ∧ Below w.heap.size w wx)
              case first =>
                obtain ⟨hn1, hbad, hgood⟩ := HT1.out
                have hn2 : n1 = Z := hn1.trans HZ.out.symm
                clear hn1
                subst hn2
                clear HT1
                by_cases hc : chk2 (lettersOf a) (lettersOf b) = 0
                · obtain ⟨hyes, hno⟩ := hgood hc
                  clear hgood hbad
                  cases o1 with
                  | true =>
                    obtain ⟨hS, i, hi, hX⟩ := hyes rfl
                    have HC := Lib.hid (turn_calls ha hb hc hS hi hX)
                    clear hyes hno hS hi hX i
                    obtain rfl : n1 = 0 := by rw [HZ.out, hc]; rfl
                    clear HZ
                    go_wp2_with (first
                      | (go_at_call 33; refine (HC.out.turns _).mono ?_; rintro e w4 ⟨rfl, hb4⟩; have hb34 := Hb3.out.trans (hb4.mono Hb3.out.size))
                      | (go_at_call 23; refine (HC.out.chk _).mono ?_; rintro e w5 ⟨rfl, rfl⟩)
                      | (go_at_call 18; refine (HC.out.red _).mono ?_; rintro e w6 ⟨rfl, hb6⟩; have hb36 := hb34.trans (hb6.mono hb34.size))
                      | (go_at_call 34; refine (HC.out.ist _).mono ?_; rintro e w7 ⟨rfl, hb7⟩; have hb37 := hb36.trans (hb7.mono hb36.size)))
                    go_meet
                    exact ⟨rfl, hb37⟩
                  | false =>
                    obtain ⟨hX, hS⟩ := hno rfl
                    have HC := Lib.hid (fun W => noturn_calls ha hb hc hS W)
                    clear hyes hno hS
                    obtain rfl : n1 = 0 := by rw [HZ.out, hc]; rfl
                    clear HZ
                    subst hX
                    go_wp2_with (go_at_call 33; refine (HC.out _).mono ?_; rintro e w4 ⟨rfl, hb4⟩; have hb34 := Hb3.out.trans (hb4.mono Hb3.out.size))
                    go_meet
                    exact ⟨rfl, hb34⟩
                · obtain ⟨hX, ho⟩ := hbad hc
                  clear hgood hbad
                  have hz0 : ¬ n1 = 0 := by rw [HZ.out]; omega
                  have hzb : (n1 == 0) = false := by simpa using hz0
                  clear hc HZ
                  subst hX ho
                  go_wp2_with fail
                  go_meet
                  exact ⟨rfl, Hb3.out⟩
              case rest =>
                obtain ⟨rfl, hb4⟩ := hcut
                have Hb4 := Lib.hid hb4
                clear hb4 Hb3 HT1
                go_upto_region 15 with (go_at_call 25; refine (HTu.out _).mono ?_; rintro e w5 ⟨rfl, hb5⟩)
                have hb45 := Hb4.out.trans (hb5.mono Hb4.out.size)
                have Hb45 := Lib.hid hb45
                clear hb45 hb5 Hb4
                go_upto_if 97 with (go_at_call 25; refine (HTv.out _).mono ?_; rintro e w6 ⟨rfl, hb6⟩)
                have hb46 := Hb45.out.trans (hb6.mono Hb45.out.size)
                have Hb46 := Lib.hid hb46
                clear hb46 hb6 Hb45
                have hzx : (strL tx).size = tx.length := strL_size _
                have hzy : (strL ty).size = ty.length := strL_size _
                by_cases hk1 : k = 1
                · subst hk1
                  have HI := Lib.hid (fun W => rinverse_any (strL ty) W (by rw [letters_strL Hty.out.lt256]; exact Hty.out) (by have := Hly.out; omega))
                  rw [letters_strL Hty.out.lt256] at HI
                  have hzi : (strL (invL ty)).size = ty.length := by rw [strL_size, invL_length]
                  generalize strL (invL ty) = ib at *
                  generalize strL tx = sx at *
                  generalize strL ty = sy at *
                  generalize tx.length = nx at *
                  generalize ty.length = ny at *
                  go_upto_if 100 with fail
                  go_cut [14] (fun v wx => ∃ i : Nat, v = .int .i64 i ∧ i ≤ nx ∧ wx = w6)
                  case first =>
                    by_cases h0 : nx = 0
                    · subst h0
                      go_wp2_with fail
                      go_meet
                      exact ⟨0, rfl, Nat.le_refl _, rfl⟩
                    · have h0i : (0 : Int) < (nx : Int) := by omega
                      have h14 := Hlx.out
                      have hnw : IntKind.u64.wrap (nx : Int) = (nx : Int) := by
                        rw [show IntKind.u64.wrap (nx : Int) = (nx : Int) % 18446744073709551616 from rfl]
                        omega
                      obtain ⟨M, hM, hMw⟩ : ∃ M : Nat, M < nx ∧ IntKind.u64.wrap by' % (nx : Int) = (M : Int) := by
                        have h1 : 0 ≤ IntKind.u64.wrap by' % (nx : Int) := Int.emod_nonneg _ (by omega)
                        have h2 : IntKind.u64.wrap by' % (nx : Int) < nx := Int.emod_lt_of_pos _ h0i
                        generalize IntKind.u64.wrap by' % (nx : Int) = x at *
                        exact ⟨x.toNat, by omega, by omega⟩
                      have hun : 0 ≤ IntKind.u64.wrap by' := by
                        rw [show IntKind.u64.wrap by' = by' % 18446744073709551616 from rfl]
                        omega
                      have hMt : (IntKind.u64.wrap by').tmod (nx : Int) = (M : Int) := by rw [Int.tmod_eq_emod_of_nonneg hun]; exact hMw
                      go_wp2_with fail
                      go_meet
                      exact ⟨M, rfl, by omega, rfl⟩
                  case rest =>
                    obtain ⟨i, rfl, hi, rfl⟩ := hcut
                    have hlx := Hlx.out
                    have hly := Hly.out
                    have hin : (i : Int) ≤ (nx : Int) := by omega
                    obtain ⟨S3, hS3, hz3⟩ : ∃ S, S = sx.extract i sx.size ∧ S.size ≤ 14 := ⟨_, rfl, by rw [ByteArray.size_extract]; omega⟩
                    obtain ⟨S7, hS7, hz7⟩ : ∃ S, S = sx.extract 0 i ∧ S.size ≤ 14 := ⟨_, rfl, by rw [ByteArray.size_extract]; omega⟩
                    go_upto_region 20 with fail
                    have Hb6 : Hid (Below w.heap.size w wc.drew) := Hb46.out.drew
                    refine wp_region_held_drew (S := fun _ => True) (by kernel_rfl) trivial (fun hHeld => ?_)
                    refine wpAnyH_take (i := 0) (v := .string sy) rfl (by kernel_rfl) (by kernel_rfl) (by kernel_rfl) (fun _ _ _ h => h) (Or.inl ⟨by rfl, fun W _ => by go_simp⟩) hHeld ?_
                    refine wpAnyH_take (i := 1) (v := .string sx) rfl (by kernel_rfl) (by kernel_rfl) (by kernel_rfl) (fun _ _ _ h => h) (Or.inl ⟨by rfl, fun W _ => by go_simp⟩) hHeld ?_
                    refine wpAnyH_take (i := 2) (v := .int .i64 i) rfl (by kernel_rfl) (by kernel_rfl) (by kernel_rfl) (fun _ _ _ h => h) (Or.inl ⟨by rfl, fun W _ => by go_simp⟩) hHeld ?_
                    refine wpAnyH_take (i := 3) (v := .string S3) rfl (by kernel_rfl) (by kernel_rfl) (by kernel_rfl) (fun _ _ _ h => h) (Or.inl ⟨by rfl, fun W _ => by go_simp⟩) hHeld ?_
                    refine wpAnyH_take (i := 4) (v := .string (sy ++ S3)) rfl (by kernel_rfl) (by kernel_rfl) (by kernel_rfl) (fun _ _ _ h => h) (Or.inl ⟨by rfl, fun W _ => by go_simp; omega⟩) hHeld ?_
                    refine wpAnyH_take (i := 5) (v := .string sx) rfl (by kernel_rfl) (by kernel_rfl) (by kernel_rfl) (fun _ _ _ h => h) (Or.inl ⟨by rfl, fun W _ => by go_simp⟩) hHeld ?_
                    refine wpAnyH_take (i := 6) (v := .int .i64 i) rfl (by kernel_rfl) (by kernel_rfl) (by kernel_rfl) (fun _ _ _ h => h) (Or.inl ⟨by rfl, fun W _ => by go_simp⟩) hHeld ?_
                    refine wpAnyH_take (i := 7) (v := .string S7) rfl (by kernel_rfl) (by kernel_rfl) (by kernel_rfl) (fun _ _ _ h => h) (Or.inl ⟨by rfl, fun W _ => by go_simp⟩) hHeld ?_
                    refine wpAnyH_take (i := 8) (v := .string (sy ++ S3 ++ S7)) rfl (by kernel_rfl) (by kernel_rfl) (by kernel_rfl) (fun _ _ _ h => h) (Or.inl ⟨by rfl, fun W _ => by go_simp; omega⟩) hHeld ?_
                    refine wpAnyH_take (i := 9) (v := .string sy) rfl (by kernel_rfl) (by kernel_rfl) (by kernel_rfl) (fun _ _ _ h => h) (Or.inl ⟨by rfl, fun W _ => by go_simp⟩) hHeld ?_
                    refine wpAnyH_ready (rs := [10]) (by kernel_rfl) (by simp) (AllReadyH.cons rfl (fun K' hK => ?_) AllReadyH.nil)
                    rw [if_pos (by rfl)]
                    go_simp
                    refine (HI.out _).mono ?_
                    rintro e w7 ⟨rfl, hb7⟩
                    have hb67 := Hb6.out.trans (hb7.mono Hb6.out.size)
                    have Hb67 := Lib.hid hb67
                    clear hb67 hb7
                    dsimp only
                    refine hK.out _ _ trivial (fun hHeld => ?_)
                    refine wpAnyH_take (i := 11) (v := .string (sy ++ S3 ++ S7 ++ ib)) rfl (by kernel_rfl) (by kernel_rfl) (by kernel_rfl) (fun _ _ _ h => h) (Or.inl ⟨by rfl, fun W _ => by go_simp; omega⟩) hHeld ?_
                    refine wpAnyH_ready (rs := [12]) (by kernel_rfl) (by simp) (AllReadyH.cons rfl (fun K' hK => ?_) AllReadyH.nil)
                    rw [if_pos (by rfl)]
                    go_simp
                    refine hK.out _ _ trivial (fun hHeld => ?_)
                    refine wpAnyH_done (by kernel_rfl) ?_ _
                    go_wp2_with fail
                    go_roundw
                    case rel => exact ⟨2, sx, _, by omega, by go_num, rfl, rfl, by omega, by rw [ByteArray.size_append, ByteArray.size_append, ByteArray.size_append, ByteArray.size_extract, ByteArray.size_extract]; omega, Hb67.out⟩
                    case measure => simp [intOf]
                · have hk1i : ¬ (k : Int) = 1 := by omega
                  have hk1b : ((k : Int) == 1) = false := by simp; omega
                  go_wp2_with fail
                  go_roundw
                  case rel => exact ⟨k + 1, strL tx, strL ty, by omega, by go_num, rfl, rfl, by have := Hlx.out; omega, by have := Hly.out; omega, Hb46.out⟩
                  case measure => simp [intOf]; omega
      · obtain rfl : k = 3 := by omega
        have Ha := Lib.hid (Haw.out wr Hbel.out)
        clear hbel
        go_wp2_with (go_at_call 15; refine Ha.out.mono ?_; clear Ha; rintro e w6 ⟨rfl, hb6⟩)
        go_ret
        exact ⟨rfl, Hbel.out.trans (hb6.mono Hbel.out.size)⟩

end Go.Proofs.Ytolppbilcmobbaa
