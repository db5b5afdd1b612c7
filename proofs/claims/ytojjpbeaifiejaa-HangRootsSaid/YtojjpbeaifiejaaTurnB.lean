/-
  The walks of the reference's core and Turns.
-/
import Derived.Test.YtojjpbeaifiejaaTurnA
import Derived.Test.YtojjpbeaifiejaaGrpM
namespace Go.Proofs.Ytojjpbeaifiejaa
open Go.RowKit Go.Shelf

theorem extract_letters (s : ByteArray) (a b : Nat) : s.extract a b = strL (((lettersOf s).take b).drop a) := by
  rw [← strL_letters (s.extract a b), letters_extract]

set_option maxRecDepth 100000 in
set_option maxHeartbeats 2000000 in
theorem rcore_any (s : ByteArray) (w : World) (hword : IsWord (lettersOf s)) (hsz : s.size ≤ 1000000) :
    Calls Try.prog 60 #[.string s] w fun e w' => e = .returned (.tuple #[.string (strL ((lettersOf s).take (coreK (lettersOf s)))), .string (strL (loopL (lettersOf s)))]) ∧ Below w.heap.size w w' := by
  have hlen := lettersOf_length s
  have Hword := Lib.hid hword
  obtain ⟨l, hl⟩ : ∃ l, lettersOf s = l := ⟨_, rfl⟩
  have Hs := Lib.hid hl
  have hget := fun k (h : k < s.size) => lettersOf_get s k h
  rw [hl] at hlen Hword hget ⊢
  have Hget := Lib.hid hget
  have Hl := Lib.hid hlen
  obtain ⟨n, hn⟩ : ∃ n, s.size = n := ⟨_, rfl⟩
  have HX : Hid (∀ a b, s.extract a b = strL ((l.take b).drop a)) := fun a b => by rw [extract_letters, hl]
  clear hword hl hget hlen
  have Hn := Lib.hid hn
  go_enter Try.func60, Try.ntmps60
  go_wp2_with fail
  go_loopw [4] (fun kv wr => ∃ k f : Nat, 2 * k ≤ n ∧ n ≤ 2 * (k + f) ∧ kv = .int .i64 k ∧ coreK l = coreF l f k ∧ Drew w wr) (fun kv _ => n - (intOf kv).toNat)
  case atStart => exact ⟨0, n, by omega, by omega, rfl, by unfold coreK; rw [Hl.out, hn], Drew.refl _⟩
  case round =>
    obtain ⟨k, f, hk, hf, rfl, hcore, hdr⟩ := hrel
    have Hcore := Lib.hid hcore
    have Hdr := Lib.hid hdr
    clear hcore hdr
    by_cases hlt : k + 1 < n - k
    · obtain ⟨f, rfl⟩ : ∃ f', f = f' + 1 := ⟨f - 1, by omega⟩
      obtain ⟨m, hm⟩ : ∃ m, n - k = m + 1 := ⟨n - k - 1, by omega⟩
      have hks : k < s.size := by omega
      have hms : m < s.size := by omega
      have hck : (s[k]'hks).toNat = l.getD k 0 := (Hget.out k hks).symm
      have hcm : (s[m]'hms).toNat = l.getD m 0 := (Hget.out m hms).symm
      have hLt : Lt (l.getD m 0) := by
        rw [List.getD_eq_getElem?_getD, List.getElem?_eq_getElem (by have := Hl.out; omega)]
        exact Hword.out _ (List.getElem_mem _)
      have Hst : Hid (coreF l (f + 1) k = if l.getD k 0 = inv (l.getD m 0) then coreF l f (k + 1) else k) := by
        show _ = _
        conv => lhs; unfold coreF
        rw [Hl.out, Hn.out, hm, Nat.add_sub_cancel]
        by_cases h : l.getD k 0 = inv (l.getD m 0)
        · rw [if_pos h, if_pos ⟨by omega, h⟩]
        · rw [if_neg h, if_neg (fun h2 => h h2.2)]
      have hksi : (k : Int) < (s.size : Int) := by omega
      have hmsi : (m : Int) < (s.size : Int) := by omega
      have hw1 : IntKind.i64.wrap (2 * (k : Int)) = 2 * (k : Int) := IntWalk.i64_in _ (by omega)
      have hw2 : IntKind.i64.wrap (2 * (k : Int) + 1) = 2 * (k : Int) + 1 := IntWalk.i64_in _ (by omega)
      have hw3 : IntKind.i64.wrap ((s.size : Int) - 1) = (s.size : Int) - 1 := IntWalk.i64_in _ (by omega)
      have hw4 : IntKind.i64.wrap ((s.size : Int) - 1 - (k : Int)) = (m : Int) := (IntWalk.i64_in _ (by omega)).trans (by omega)
      have hlti : 2 * (k : Int) + 1 < (s.size : Int) := by omega
      have hdec : decide (2 * (k : Int) + 1 < (s.size : Int)) = true := decide_eq_true hlti
      have Hm := Lib.hid hm
      have Hk := Lib.hid hk
      have Hlt := Lib.hid hlt
      generalize l.getD k 0 = x at *
      generalize l.getD m 0 = y at *
      have Hoth := Lib.hid (fun W => rother_any y hLt W)
      clear hm hlt hn hLt
      by_cases hxy : x = inv y
      · subst hxy
        go_wp2_with fail
        go_quiet ((go_at_call 48; exact Calls.quiet_of_same (Hoth.out _)))
        clear hw1 hw2 hw3 hw4 hdec
        go_wp2_with fail
        go_roundw
        case rel => exact ⟨k + 1, f, by have := Hlt.out; omega, by omega, by go_num, by rw [Hcore.out, Hst.out, if_pos trivial], Hdr.out.drewN nq⟩
        case measure => have := Hlt.out; simp [intOf]; omega
      · have hne : ((x : Int) == ((inv y : Nat) : Int)) = false := by
          have : ((x : Int) ≠ ((inv y : Nat) : Int)) := by omega
          simpa using this
        have Hck : Hid (coreK l = k) := by show _ = _; rw [Hcore.out, Hst.out, if_neg hxy]
        clear hxy
        go_wp2_with fail
        go_quiet ((go_at_call 48; exact Calls.quiet_of_same (Hoth.out _)))
        clear hw1 hw2 hw3 hw4 hdec hlti hck hcm
        have HP := Lib.hid (HX.out 0 k)
        have HQ : Hid (s.extract k (n - k) = strL (loopL l)) := by
          show _ = _
          rw [HX.out]
          unfold loopL
          rw [Hck.out, Hl.out, Hn.out, List.drop_take, show n - k - k = n - 2 * k by omega]
        have hsl1 : ∀ W, (Instr.slice 9 (.string s) none (some (.int .i64 (k : Nat))) none).run Try.prog W = .ok (.string (s.extract 0 k)) W := fun W => by
          rw [run_slice_string_h W 9 s Try.underlying9 .i64 (k : Nat) (by omega) (by have := Hn.out; omega)]
          rfl
        have hsl2 : ∀ W, (Instr.slice 9 (.string s) (some (.int .i64 (k : Nat))) (some (.int .i64 ((n - k : Nat) : Int))) none).run Try.prog W = .ok (.string (s.extract k (n - k))) W := fun W => by
          rw [run_slice_string W 9 s .i64 .i64 (k : Nat) ((n - k : Nat) : Int) Try.underlying9 (by omega) (by omega) (by have := Hn.out; omega)]
          rfl
        have hw5 : IntKind.i64.wrap ((s.size : Int) - (k : Int)) = ((n - k : Nat) : Int) := (IntWalk.i64_in _ (by have := Hn.out; omega)).trans (by have := Hn.out; omega)
        rw [HP.out] at hsl1
        rw [HQ.out] at hsl2
        obtain ⟨PP, hPP⟩ : ∃ PP, PP = strL ((l.take k).drop 0) := ⟨_, rfl⟩
        rw [← hPP] at hsl1
        have HPP : Hid (PP = strL (l.take (coreK l))) := by show _ = _; rw [hPP, Hck.out, List.drop_zero]
        clear hPP
        go_wp2_with fail
        go_quiet (fail)
        go_wp2_with fail
        go_ret2
        exact ⟨by rw [← HPP.out]; rfl, below_drewN (below_drewN Hdr.out.below _) _⟩
    · have Hck : Hid (coreK l = k) := by
        show _ = _
        rw [Hcore.out]
        cases f with
        | zero => rfl
        | succ f =>
          unfold coreF
          rw [Hl.out, Hn.out, if_neg (fun h => hlt h.1)]
      have hlti : ¬ 2 * (k : Int) + 1 < (s.size : Int) := by omega
      have hw1 : IntKind.i64.wrap (2 * (k : Int)) = 2 * (k : Int) := IntWalk.i64_in _ (by omega)
      have hw2 : IntKind.i64.wrap (2 * (k : Int) + 1) = 2 * (k : Int) + 1 := IntWalk.i64_in _ (by omega)
      have hdec : decide (2 * (k : Int) + 1 < (s.size : Int)) = false := decide_eq_false hlti
      have HP := Lib.hid (HX.out 0 k)
      have HQ : Hid (s.extract k (n - k) = strL (loopL l)) := by
        show _ = _
        rw [HX.out]
        unfold loopL
        rw [Hck.out, Hl.out, Hn.out, List.drop_take, show n - k - k = n - 2 * k by omega]
      have hsl1 : ∀ W, (Instr.slice 9 (.string s) none (some (.int .i64 (k : Nat))) none).run Try.prog W = .ok (.string (s.extract 0 k)) W := fun W => by
        rw [run_slice_string_h W 9 s Try.underlying9 .i64 (k : Nat) (by omega) (by have := Hn.out; omega)]
        rfl
      have hsl2 : ∀ W, (Instr.slice 9 (.string s) (some (.int .i64 (k : Nat))) (some (.int .i64 ((n - k : Nat) : Int))) none).run Try.prog W = .ok (.string (s.extract k (n - k))) W := fun W => by
        rw [run_slice_string W 9 s .i64 .i64 (k : Nat) ((n - k : Nat) : Int) Try.underlying9 (by omega) (by omega) (by have := Hn.out; omega)]
        rfl
      have hw5 : IntKind.i64.wrap ((s.size : Int) - (k : Int)) = ((n - k : Nat) : Int) := (IntWalk.i64_in _ (by have := Hn.out; omega)).trans (by have := Hn.out; omega)
      rw [HP.out] at hsl1
      rw [HQ.out] at hsl2
      obtain ⟨PP, hPP⟩ : ∃ PP, PP = strL ((l.take k).drop 0) := ⟨_, rfl⟩
      rw [← hPP] at hsl1
      have HPP : Hid (PP = strL (l.take (coreK l))) := by show _ = _; rw [hPP, Hck.out, List.drop_zero]
      clear hPP hn hlt
      go_wp2_with fail
      go_quiet (fail)
      clear hw1 hw2 hdec hlti
      go_wp2_with fail
      go_quiet (fail)
      go_wp2_with fail
      go_ret2
      exact ⟨by rw [← HPP.out]; rfl, below_drewN (below_drewN Hdr.out.below _) _⟩

theorem strL_eq {l m : List Nat} (hl : ∀ c ∈ l, c < 256) (hm : ∀ c ∈ m, c < 256) : ((strL l).toList == (strL m).toList) = decide (l = m) := by
  apply Bool.eq_iff_iff.2
  rw [beq_iff_eq, decide_eq_true_eq]
  constructor
  · intro e
    have h1 : strL l = strL m := by
      rw [← strL_letters (strL l), ← strL_letters (strL m)]
      unfold lettersOf
      rw [← ByteArray.toList_eq, ← ByteArray.toList_eq, e]
    rw [← letters_strL hl, ← letters_strL hm, h1]
  · rintro rfl; rfl

/-- A question that is answered. -/
def RetIf (P : Prop) (w : World) (e : Ending) (w' : World) : Prop := ∃ r : Bool, e = .returned (.bool r) ∧ (r = true ↔ P) ∧ Below w.heap.size w w'

set_option maxRecDepth 100000 in
set_option maxHeartbeats 1000000 in
theorem rturns_any (u v : ByteArray) (w : World) (hu : IsWord (lettersOf u)) (hv : IsWord (lettersOf v)) (hus : u.size ≤ 1000000) (hvs : v.size ≤ 1000000) :
    Calls Try.prog 33 #[.string u, .string v] w (RetIf ((loopL (redL (lettersOf v))).length = (loopL (redL (lettersOf u))).length ∧ ∃ i, i ≤ (loopL (redL (lettersOf u))).length ∧ rotL (loopL (redL (lettersOf u))) i = loopL (redL (lettersOf v))) w) := by
  have HR1 := Lib.hid (fun W => rreduce_any u W hu hus)
  have HR2 := Lib.hid (fun W => rreduce_any v W hv hvs)
  have hrw1 := red_word hu
  have hrw2 := red_word hv
  have hrl1 := redL_length (lettersOf u)
  have hrl2 := redL_length (lettersOf v)
  have hlu := lettersOf_length u
  have hlv := lettersOf_length v
  generalize redL (lettersOf u) = a at *
  generalize redL (lettersOf v) = b at *
  have hla : lettersOf (strL a) = a := letters_strL hrw1.lt256
  have hlb : lettersOf (strL b) = b := letters_strL hrw2.lt256
  have HC1 : Hid (∀ W, Calls Try.prog 60 #[.string (strL a)] W fun e w' => e = .returned (.tuple #[.string (strL (a.take (coreK a))), .string (strL (loopL a))]) ∧ Below W.heap.size W w') := fun W => by
    have h := rcore_any (strL a) W (by rw [hla]; exact hrw1) (by rw [strL_size]; omega)
    rwa [hla] at h
  have HC2 : Hid (∀ W, Calls Try.prog 60 #[.string (strL b)] W fun e w' => e = .returned (.tuple #[.string (strL (b.take (coreK b))), .string (strL (loopL b))]) ∧ Below W.heap.size W w') := fun W => by
    have h := rcore_any (strL b) W (by rw [hlb]; exact hrw2) (by rw [strL_size]; omega)
    rwa [hlb] at h
  have hwa := loop_word hrw1
  have hwb := loop_word hrw2
  have hsa : (loopL a).length ≤ 1000000 := by rw [loopL_length]; omega
  generalize loopL a = la at *
  generalize loopL b = lb at *
  generalize strL (a.take (coreK a)) = ja at *
  generalize strL (b.take (coreK b)) = jb at *
  generalize strL a = sa at *
  generalize strL b = sb at *
  have hza : (strL la).size = la.length := strL_size _
  have hzb : (strL lb).size = lb.length := strL_size _
  have Hza := Lib.hid hza
  have HE : Hid (∀ i, i ≤ la.length → ((strL (rotL la i)).toList == (strL lb).toList) = decide (rotL la i = lb)) := fun i hi => strL_eq (fun c hc => by
    unfold rotL at hc
    rcases List.mem_append.1 hc with hc | hc
    · exact hwa.lt256 c (List.mem_of_mem_drop hc)
    · exact hwa.lt256 c (List.mem_of_mem_take hc)) hwb.lt256
  have HX : Hid (∀ x y, (strL la).extract x y = strL ((la.take y).drop x)) := fun x y => by rw [extract_letters, letters_strL hwa.lt256]
  obtain ⟨PP, hPP⟩ : ∃ PP : Prop, PP = (lb.length = la.length ∧ ∃ i, i ≤ la.length ∧ rotL la i = lb) := ⟨_, rfl⟩
  rw [← hPP]
  have HPP := Lib.hid hPP
  clear hPP
  generalize hSA : strL la = SA at *
  generalize strL lb = SB at *
  clear hla hlb hrw1 hrw2 hrl1 hrl2 hlu hlv hwa hwb hSA
  go_enter Try.func33, Try.ntmps33
  go_upto_region 3 with (first
    | (go_at_call 18; refine (HR1.out _).mono ?_; clear HR1; rintro e w2 ⟨rfl, hb2⟩)
    | (go_at_call 60; refine (HC1.out _).mono ?_; clear HC1; rintro e w3 ⟨rfl, hb3⟩; have hb03 := hb2.trans (hb3.mono hb2.size))
    | (go_at_call 18; refine (HR2.out _).mono ?_; clear HR2; rintro e w4 ⟨rfl, hb4⟩; have hb04 := hb03.trans (hb4.mono hb03.size))
    | (go_at_call 60; refine (HC2.out _).mono ?_; clear HC2; rintro e w5 ⟨rfl, hb5⟩; have hb05 := hb04.trans (hb5.mono hb04.size)))
  have Hb := Lib.hid hb05
  clear hb2 hb3 hb4 hb5 hb03 hb04 hb05
  by_cases hlen : la.length = lb.length
  · have hleni : ((la.length : Int) == (lb.length : Int)) = true := by simp; omega
    go_wp2_with fail
    go_loopw [9] (fun iv wr => ∃ i : Nat, i ≤ la.length + 1 ∧ iv = .int .i64 i ∧ (∀ j, j < i → rotL la j ≠ lb) ∧ Below w.heap.size w wr) (fun iv _ => la.length + 1 - (intOf iv).toNat)
    case atStart => exact ⟨0, Nat.zero_le _, rfl, fun j hj => absurd hj (by omega), Hb.out⟩
    case round =>
      obtain ⟨i, hi, rfl, hno, hbel⟩ := hrel
      have Hno := Lib.hid hno
      have Hbel := Lib.hid hbel
      clear hno hbel
      by_cases hlt : i ≤ la.length
      · have hlti : (i : Int) ≤ (la.length : Int) := by omega
        have hc := HE.out i hlt
        have hx1 : SA.extract i la.length = strL (la.drop i) := by rw [HX.out, List.take_length]
        have hx2 : SA.extract 0 i = strL (la.take i) := by rw [HX.out, List.drop_zero]
        have hcat : strL (la.drop i) ++ strL (la.take i) = strL (rotL la i) := strL_append _ _
        have hs1 : ∀ W, (Instr.slice 9 (.string SA) (some (.int .i64 (i : Nat))) none none).run Try.prog W = .ok (.string (strL (la.drop i))) W := fun W => by
          rw [run_slice_string_l W 9 SA Try.underlying9 .i64 (i : Nat) (by omega) (by have := Hza.out; omega), ← hx1, Hza.out]
          rfl
        have hs2 : ∀ W, (Instr.slice 9 (.string SA) none (some (.int .i64 (i : Nat))) none).run Try.prog W = .ok (.string (strL (la.take i))) W := fun W => by
          rw [run_slice_string_h W 9 SA Try.underlying9 .i64 (i : Nat) (by omega) (by have := Hza.out; omega), ← hx2]
          rfl
        have hz1 : (strL (la.drop i)).size ≤ 1000000 := by rw [strL_size, List.length_drop]; omega
        have hz2 : (strL (la.take i)).size ≤ 1000000 := by rw [strL_size, List.length_take]; omega
        generalize strL (la.drop i) = P at *
        generalize strL (la.take i) = Q at *
        generalize strL (rotL la i) = X at *
        obtain ⟨d, hd⟩ : ∃ d, decide (rotL la i = lb) = d := ⟨_, rfl⟩
        rw [hd] at hc
        have Hd := Lib.hid hd
        clear hd hx1 hx2
        cases d
        · go_wp2_with fail
          go_quiet (fail)
          go_wp2_with fail
          go_roundw
          case rel => exact ⟨i + 1, by omega, by go_num, fun j hj => by
            rcases Nat.lt_or_ge j i with h | h
            · exact Hno.out j h
            · obtain rfl : j = i := by omega
              exact of_decide_eq_false Hd.out, below_drewN Hbel.out nq⟩
          case measure => simp [intOf]; omega
        · go_wp2_with fail
          go_quiet (fail)
          go_wp2_with fail
          go_ret
          exact ⟨true, rfl, by rw [HPP.out]; exact ⟨fun _ => ⟨hlen.symm, i, hlt, of_decide_eq_true Hd.out⟩, fun _ => rfl⟩, below_drewN Hbel.out nq⟩
      · have hlti : ¬ (i : Int) ≤ (la.length : Int) := by omega
        go_wp2_with fail
        go_ret
        exact ⟨false, rfl, by rw [HPP.out]; exact ⟨(fun h => by cases h), fun ⟨_, j, hj, e⟩ => absurd e (Hno.out j (by omega))⟩, Hbel.out⟩
  · have hleni : ((la.length : Int) == (lb.length : Int)) = false := by simp; omega
    go_wp2_with fail
    go_ret
    exact ⟨false, rfl, by rw [HPP.out]; exact ⟨(fun h => by cases h), fun ⟨h, _⟩ => absurd h.symm hlen⟩, Hb.out⟩

end Go.Proofs.Ytojjpbeaifiejaa
