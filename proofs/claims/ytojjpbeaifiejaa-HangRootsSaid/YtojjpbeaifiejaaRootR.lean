/-
  The walks of the reference's Root and Commute, and of the program's Root and Commute of any two strings.
  The walk of the reference's Commute, and what the program's Root and Commute return of any two strings.
-/
import Derived.Test.YtojjpbeaifiejaaTurnB
import Derived.Test.YtojjpbeaifiejaaComC
namespace Go.Proofs.Ytojjpbeaifiejaa
open Go.RowKit Go.Shelf

/-- The first part of which a loop is a power is its least rotation's, and with the handle around it is the root. -/
theorem root_first {a : List Nat} (hw : IsWord a) (hr : redL a = a) (hne : a ≠ []) :
    1 ≤ perL a ∧ perL a ≤ (loopL a).length ∧ (loopL a).length % perL a = 0 ∧ loopL a = pw ((loopL a).take (perL a)) ((loopL a).length / perL a) ∧
    (∀ d, 1 ≤ d → d < perL a → loopL a ≠ pw ((loopL a).take d) ((loopL a).length / d)) ∧
    a.take (coreK a) ++ ((loopL a).take (perL a) ++ invL (a.take (coreK a))) = rootL a := by
  obtain ⟨h, p, k, s, e⟩ := sh_of hw hr hne
  have hparts := s.parts k
  rw [← e] at hparts
  obtain ⟨_, hh, hl, hp, hroot, _⟩ := hparts
  have lp := List.length_pos_iff.2 s.pr.1
  have hll : (loopL a).length = (k + 1) * p.length := by rw [hl, pw_length]
  have hlr : IsLR (loopL a) (perL a) := (per_lr hw (loop_ne hw hr hne)).2
  have ht : (loopL a).take (perL a) = p := by rw [hp, hl, pw_succ, List.take_left]
  refine ⟨hlr.1, hlr.2.1, ?_, ?_, fun d h1 h2 h3 => ?_, ?_⟩
  · rw [hll, hp]; exact Nat.mul_mod_left _ _
  · rw [ht, hll, hp, Nat.mul_div_cancel _ lp]; exact hl
  · have hd := hlr.2.1
    obtain ⟨q, hq⟩ : ∃ q, (loopL a).length / d = q + 1 := ⟨(loopL a).length / d - 1, by have := Nat.div_pos (show d ≤ (loopL a).length by omega) h1; omega⟩
    rw [hq] at h3
    have hlt : ((loopL a).take d).length = d := by rw [List.length_take]; omega
    have := lr_pow hlr h3 (by intro e2; rw [e2] at hlt; simp at hlt; omega)
    omega
  · rw [ht, hroot]
    have : a.take (coreK a) = h := hh
    rw [this]

theorem mod_ne_int {n d : Nat} (h : ¬ n % d = 0) : (((n : Int).tmod (d : Int)) == 0) = false := by
  rw [Int.tmod_eq_emod_of_nonneg (by omega), beq_eq_false_iff_ne]
  intro e
  exact h (by omega)
theorem mod_eq_int {n d : Nat} (h : n % d = 0) : (n : Int).tmod (d : Int) = 0 := by
  rw [Int.tmod_eq_emod_of_nonneg (by omega)]
  omega
theorem nat_wrap {q : Nat} (h : q ≤ 10000) : IntKind.i64.wrap (q : Int) = (q : Int) := IntWalk.i64_in _ (by omega)
theorem div_int (n d : Nat) : (n : Int).tdiv (d : Int) = ((n / d : Nat) : Int) := by
  rw [Int.tdiv_eq_ediv_of_nonneg (by omega)]
  omega

set_option maxRecDepth 100000 in
set_option maxHeartbeats 4000000 in
theorem rroot_any (s : ByteArray) (w : World) (hu : IsWord (lettersOf s)) (hsz : s.size ≤ 10000) :
    Calls Try.prog 28 #[.string s] w fun e w' => e = .returned (.tuple #[.string (strL (rootL (redL (lettersOf s)))), .int .i64 (powL (redL (lettersOf s)))]) ∧ Below w.heap.size w w' := by
  have HR1 := Lib.hid (fun W => rreduce_any s W hu (by omega))
  have hrw := red_word hu
  have hrr := red_red hu
  have hrl := redL_length (lettersOf s)
  have hls := lettersOf_length s
  generalize redL (lettersOf s) = a at *
  have hla : lettersOf (strL a) = a := letters_strL hrw.lt256
  have HC1 : Hid (∀ W, Calls Try.prog 60 #[.string (strL a)] W fun e w' => e = .returned (.tuple #[.string (strL (a.take (coreK a))), .string (strL (loopL a))]) ∧ Below W.heap.size W w') := fun W => by
    have h := rcore_any (strL a) W (by rw [hla]; exact hrw) (by rw [strL_size]; omega)
    rwa [hla] at h
  have hwl := loop_word hrw
  have hsl : (loopL a).length ≤ 10000 := by rw [loopL_length]; omega
  have hwx := hrw.take (coreK a)
  have hsx : (a.take (coreK a)).length ≤ 10000 := by rw [List.length_take]; omega
  have hF := fun hne => root_first hrw hrr hne
  have hnil : a = [] → loopL a = [] := fun e => by rw [e]; rfl
  have hpow : powL a = (loopL a).length / perL a := rfl
  have hres0 : a = [] → rootL a = [] ∧ powL a = 0 := fun e => by rw [e]; exact ⟨root_nil, pow_nil⟩
  generalize perL a = P at *
  generalize loopL a = l at *
  generalize a.take (coreK a) = x at *
  generalize rootL a = R at *
  generalize powL a = pn at *
  generalize strL a = sa at *
  have hlx : lettersOf (strL x) = x := letters_strL hwx.lt256
  have hzl : (strL l).size = l.length := strL_size _
  have HI : Hid (∀ W, Calls Try.prog 19 #[.string (strL x)] W fun e w' => e = .returned (.string (strL (invL x))) ∧ Below W.heap.size W w') := fun W => by
    have h := rinverse_any (strL x) W (by rw [hlx]; exact hwx) (by rw [strL_size]; omega)
    rwa [hlx] at h
  have HP : Hid (∀ (d q : Nat) W, q ≤ 10000 → Calls Try.prog 31 #[.string (strL (l.take d)), .int .i64 q] W fun e w' => e = .returned (.string (strL (pw (l.take d) q))) ∧ Below W.heap.size W w') := fun d q W hq => by
    have wt : IsWord (l.take d) := hwl.take d
    have ht : lettersOf (strL (l.take d)) = l.take d := letters_strL wt.lt256
    have h := rpower_any (strL (l.take d)) q W (by rw [ht]; exact wt) (by rw [strL_size, List.length_take]; omega) (by omega)
    rwa [ht, powZ_nat] at h
  have HE : Hid (∀ d q, ((strL l).toList == (strL (pw (l.take d) q)).toList) = decide (l = pw (l.take d) q)) := fun d q => strL_eq hwl.lt256 (pw_word (hwl.take d) q).lt256
  have HS : Hid (∀ d : Nat, d ≤ l.length → ∀ W, (Instr.slice 9 (.string (strL l)) none (some (.int .i64 (d : Nat))) none).run Try.prog W = .ok (.string (strL (l.take d))) W) := fun d hd W => by
    rw [run_slice_string_h W 9 (strL l) Try.underlying9 .i64 (d : Nat) (by omega) (by rw [hzl]; omega)]
    have : (strL l).extract 0 d = strL (l.take d) := by rw [extract_letters, letters_strL hwl.lt256, List.drop_zero]
    rw [← this]
    rfl
  have Hsl := Lib.hid hsl
  have Hsx := Lib.hid hsx
  clear hsl hsx hla hrl hls hrw hrr hu hwl hwx hlx
  go_enter Try.func28, Try.ntmps28
  go_upto_region 2 with (first
    | (go_at_call 18; refine (HR1.out _).mono ?_; clear HR1; rintro e w2 ⟨rfl, hb2⟩)
    | (go_at_call 60; refine (HC1.out _).mono ?_; clear HC1; rintro e w3 ⟨rfl, hb3⟩; have hb03 := hb2.trans (hb3.mono hb2.size)))
  have Hb := Lib.hid hb03
  clear hb2 hb3 hb03
  by_cases ha : a = []
  · obtain rfl := hnil ha
    obtain ⟨rfl, rfl⟩ := hres0 ha
    clear hF hnil hpow hres0 HE HP HS HI hzl
    rw [strL_nil]
    go_wp2_with fail
    go_loopw [6] (fun dv wr => dv = .int .i64 1 ∧ Below w.heap.size w wr) (fun _ _ => 0)
    case atStart => exact ⟨rfl, Hb.out⟩
    case round =>
      obtain ⟨rfl, hbel⟩ := hrel
      go_wp2_with fail
      go_ret2
      exact ⟨rfl, hbel⟩
  · obtain ⟨f1, f2, f3, f4, f5, f6⟩ := hF ha
    have F4 := Lib.hid f4
    have F5 := Lib.hid f5
    have F3 := Lib.hid f3
    have F6 := Lib.hid f6
    have Hpow := Lib.hid hpow
    clear hF hnil hpow hres0 f3 f4 f5 f6 ha
    obtain ⟨n, hn⟩ : ∃ n, l.length = n := ⟨_, rfl⟩
    rw [hn] at hzl f2 Hpow F3 F4 F5 HS Hsl
    generalize hSL : strL l = SL at *
    clear hSL
    have Hn := Lib.hid hn
    clear hn
    go_wp2_with fail
    go_loopw [6] (fun dv wr => ∃ d : Nat, 1 ≤ d ∧ d ≤ P ∧ dv = .int .i64 d ∧ Below w.heap.size w wr) (fun dv _ => P - (intOf dv).toNat)
    case atStart => exact ⟨1, Nat.le_refl _, f1, rfl, Hb.out⟩
    case round =>
      obtain ⟨d, h1, h2, rfl, hbel⟩ := hrel
      have Hbel := Lib.hid hbel
      clear hbel
      have hdl : d ≤ n := Nat.le_trans h2 f2
      have hdli : (d : Int) ≤ (n : Int) := by omega
      have hd0 : ¬ (d : Int) = 0 := by omega
      have hd0b : ((d : Int) == 0) = false := by simpa using hd0
      have hsl : ∀ W, (Instr.slice 9 (.string SL) none (some (.int .i64 (d : Nat))) none).run Try.prog W = .ok (.string (strL (l.take d))) W := HS.out d hdl
      have hqn : n / d ≤ n := Nat.div_le_self _ _
      have hdt := div_int n d
      have hqw : IntKind.i64.wrap ((n / d : Nat) : Int) = ((n / d : Nat) : Int) := nat_wrap (Nat.le_trans hqn Hsl.out)
      have hdn : ¬ d = 0 := by omega
      have hd10 : d ≤ 10000 := by have := Hsl.out; omega
      by_cases hm : n % d = 0
      · have hmt := mod_eq_int hm
        have hcmp := HE.out d (n / d)
        have hP := HP.out d (n / d)
        have HP1 := Lib.hid (fun W => hP W (by have := Hsl.out; omega))
        clear hP
        obtain ⟨b, hb⟩ : ∃ b, decide (l = pw (l.take d) (n / d)) = b := ⟨_, rfl⟩
        rw [hb] at hcmp
        have HD : Hid ((b = true → d = P) ∧ (b = false → d < P)) := by
          constructor
          · rintro rfl
            have := of_decide_eq_true hb
            rcases Nat.lt_or_ge d P with g | g
            · exact absurd this (F5.out d h1 g)
            · omega
          · rintro rfl
            have := of_decide_eq_false hb
            rcases Nat.lt_or_ge d P with g | g
            · exact g
            · obtain rfl : d = P := by omega
              exact absurd F4.out this
        clear hb hm
        have HX : Hid (d = P → x ++ (l.take d ++ invL x) = R) := fun e => by rw [e]; exact F6.out
        have HQ : Hid (d = P → n / d = pn) := fun e => by rw [e]; exact Hpow.out.symm
        have HC : Hid (strL x ++ strL (l.take d) ++ strL (invL x) = strL (x ++ (l.take d ++ invL x))) := by show _ = _; rw [strL_append, strL_append, List.append_assoc]
        have hz1 : (strL x).size ≤ 10000 := by rw [strL_size]; exact Hsx.out
        have hz2 : (strL (l.take d)).size ≤ 10000 := by rw [strL_size, List.length_take]; have := Hn.out; have := Hsl.out; omega
        have hz3 : (strL (invL x)).size ≤ 10000 := by rw [strL_size, invL_length]; exact Hsx.out
        generalize strL (pw (l.take d) (n / d)) = PW at *
        generalize x ++ (l.take d ++ invL x) = RR at *
        generalize strL (l.take d) = ST at *
        generalize strL (invL x) = SI at *
        generalize strL x = SX at *
        generalize hq : n / d = q at *
        have h1' := Lib.hid h1
        have h2' := Lib.hid h2
        clear hq F3 F4 F5 F6 HE HP HS h1 h2
        go_upto_region 5 with fail
        have Hb5 : Hid (Below w.heap.size w wr.drew) := Hbel.out.drew
        refine wp_region_held_drew (S := fun _ => True) (by kernel_rfl) trivial (fun hHeld => ?_)
        refine wpAnyH_take (i := 0) (v := .string SL) rfl (by kernel_rfl) (by kernel_rfl) (by kernel_rfl) (fun _ _ _ h => h) (Or.inl ⟨by kernel_rfl, fun W _ => by go_simp⟩) hHeld ?_
        refine wpAnyH_take (i := 1) (v := .int .i64 n) rfl (by kernel_rfl) (by kernel_rfl) (by kernel_rfl) (fun _ _ _ h => h) (Or.inl ⟨by kernel_rfl, fun W _ => by go_simp⟩) hHeld ?_
        refine wpAnyH_take (i := 2) (v := .int .i64 d) rfl (by kernel_rfl) (by kernel_rfl) (by kernel_rfl) (fun _ _ _ h => h) (Or.inl ⟨by kernel_rfl, fun W _ => by go_simp⟩) hHeld ?_
        refine wpAnyH_take (i := 3) (v := .int .i64 0) rfl (by kernel_rfl) (by kernel_rfl) (by kernel_rfl) (fun _ _ _ h => h) (Or.inl ⟨by kernel_rfl, fun W _ => by go_simp⟩) hHeld ?_
        refine wpAnyH_take (i := 4) (v := .bool true) rfl (by kernel_rfl) (by kernel_rfl) (by kernel_rfl) (fun _ _ _ h => h) (Or.inl ⟨by kernel_rfl, fun W _ => by go_simp⟩) hHeld ?_
        refine wpAnyH_take (i := 5) (v := .bool true) rfl (by kernel_rfl) (by kernel_rfl) (by kernel_rfl) (fun _ _ _ h => h) (Or.inl ⟨by kernel_rfl, fun W _ => by go_simp⟩) hHeld ?_
        refine wpAnyH_take (i := 6) (v := .string SL) rfl (by kernel_rfl) (by kernel_rfl) (by kernel_rfl) (fun _ _ _ h => h) (Or.inl ⟨by kernel_rfl, fun W _ => by go_simp⟩) hHeld ?_
        refine wpAnyH_take (i := 7) (v := .string SL) rfl (by kernel_rfl) (by kernel_rfl) (by kernel_rfl) (fun _ _ _ h => h) (Or.inl ⟨by kernel_rfl, fun W _ => by go_simp⟩) hHeld ?_
        refine wpAnyH_take (i := 8) (v := .int .i64 d) rfl (by kernel_rfl) (by kernel_rfl) (by kernel_rfl) (fun _ _ _ h => h) (Or.inl ⟨by kernel_rfl, fun W _ => by go_simp⟩) hHeld ?_
        refine wpAnyH_take (i := 9) (v := .string ST) rfl (by kernel_rfl) (by kernel_rfl) (by kernel_rfl) (fun _ _ _ h => h) (Or.inl ⟨by kernel_rfl, fun W _ => by go_simp⟩) hHeld ?_
        refine wpAnyH_take (i := 10) (v := .string SL) rfl (by kernel_rfl) (by kernel_rfl) (by kernel_rfl) (fun _ _ _ h => h) (Or.inl ⟨by kernel_rfl, fun W _ => by go_simp⟩) hHeld ?_
        refine wpAnyH_take (i := 11) (v := .int .i64 n) rfl (by kernel_rfl) (by kernel_rfl) (by kernel_rfl) (fun _ _ _ h => h) (Or.inl ⟨by kernel_rfl, fun W _ => by go_simp⟩) hHeld ?_
        refine wpAnyH_take (i := 12) (v := .int .i64 d) rfl (by kernel_rfl) (by kernel_rfl) (by kernel_rfl) (fun _ _ _ h => h) (Or.inl ⟨by kernel_rfl, fun W _ => by go_simp⟩) hHeld ?_
        refine wpAnyH_take (i := 13) (v := .int .i64 q) rfl (by kernel_rfl) (by kernel_rfl) (by kernel_rfl) (fun _ _ _ h => h) (Or.inl ⟨by kernel_rfl, fun W _ => by go_simp⟩) hHeld ?_
        refine wpAnyH_ready (rs := [14]) (by kernel_rfl) (by simp) (AllReadyH.cons rfl (fun K' hK => ?_) AllReadyH.nil)
        rw [if_pos (by kernel_rfl)]
        go_simp
        refine (HP1.out _).mono ?_
        rintro e w7 ⟨rfl, hb7⟩
        have Hb7 := Lib.hid (Hb5.out.trans (hb7.mono Hb5.out.size))
        clear hb7
        dsimp only
        refine hK.out _ _ trivial (fun hHeld => ?_)
        refine wpAnyH_take (i := 15) (v := .bool b) rfl (by kernel_rfl) (by kernel_rfl) (by kernel_rfl) (fun _ _ _ h => h) (Or.inl ⟨by kernel_rfl, fun W _ => by go_simp⟩) hHeld ?_
        refine wpAnyH_take (i := 16) (v := .bool b) rfl (by kernel_rfl) (by kernel_rfl) (by kernel_rfl) (fun _ _ _ h => h) (Or.inl ⟨by kernel_rfl, fun W _ => by go_simp⟩) hHeld ?_
        refine wpAnyH_done (by kernel_rfl) ?_ _
        clear hcmp hmt HP1 Hbel Hb5
        cases b with
        | false =>
          have hlt := HD.out.2 rfl
          have Hlt := Lib.hid hlt
          clear hlt HD HX HQ HC
          go_wp2_with fail
          go_roundw
          case rel => exact ⟨d + 1, by omega, Hlt.out, by go_num, Hb7.out⟩
          case measure => have := Hlt.out; simp [intOf]; omega
        | true =>
          have he := HD.out.1 rfl
          have hR := HX.out he
          have hpn := HQ.out he
          subst hpn
          have HC' := Lib.hid (HC.out.trans (congrArg strL hR))
          clear he HD HX HQ HC hR
          go_upto_region 6 with fail
          have Hb8 : Hid (Below w.heap.size w w7.drew) := Hb7.out.drew
          refine wp_region_held_drew (S := fun _ => True) (by kernel_rfl) trivial (fun hHeld => ?_)
          refine wpAnyH_take (i := 0) (v := .string SX) rfl (by kernel_rfl) (by kernel_rfl) (by kernel_rfl) (fun _ _ _ h => h) (Or.inl ⟨by kernel_rfl, fun W _ => by go_simp⟩) hHeld ?_
          refine wpAnyH_take (i := 1) (v := .string SL) rfl (by kernel_rfl) (by kernel_rfl) (by kernel_rfl) (fun _ _ _ h => h) (Or.inl ⟨by kernel_rfl, fun W _ => by go_simp⟩) hHeld ?_
          refine wpAnyH_take (i := 2) (v := .int .i64 d) rfl (by kernel_rfl) (by kernel_rfl) (by kernel_rfl) (fun _ _ _ h => h) (Or.inl ⟨by kernel_rfl, fun W _ => by go_simp⟩) hHeld ?_
          refine wpAnyH_take (i := 3) (v := .string ST) rfl (by kernel_rfl) (by kernel_rfl) (by kernel_rfl) (fun _ _ _ h => h) (Or.inl ⟨by kernel_rfl, fun W _ => by go_simp⟩) hHeld ?_
          refine wpAnyH_take (i := 4) (v := .string (SX ++ ST)) rfl (by kernel_rfl) (by kernel_rfl) (by kernel_rfl) (fun _ _ _ h => h) (Or.inl ⟨by kernel_rfl, fun W _ => by go_simp; omega⟩) hHeld ?_
          refine wpAnyH_take (i := 5) (v := .string SX) rfl (by kernel_rfl) (by kernel_rfl) (by kernel_rfl) (fun _ _ _ h => h) (Or.inl ⟨by kernel_rfl, fun W _ => by go_simp⟩) hHeld ?_
          refine wpAnyH_take (i := 8) (v := .string SL) rfl (by kernel_rfl) (by kernel_rfl) (by kernel_rfl) (fun _ _ _ h => h) (Or.inl ⟨by kernel_rfl, fun W _ => by go_simp⟩) hHeld ?_
          refine wpAnyH_take (i := 9) (v := .int .i64 n) rfl (by kernel_rfl) (by kernel_rfl) (by kernel_rfl) (fun _ _ _ h => h) (Or.inl ⟨by kernel_rfl, fun W _ => by go_simp⟩) hHeld ?_
          refine wpAnyH_take (i := 10) (v := .int .i64 d) rfl (by kernel_rfl) (by kernel_rfl) (by kernel_rfl) (fun _ _ _ h => h) (Or.inl ⟨by kernel_rfl, fun W _ => by go_simp⟩) hHeld ?_
          refine wpAnyH_take (i := 11) (v := .int .i64 q) rfl (by kernel_rfl) (by kernel_rfl) (by kernel_rfl) (fun _ _ _ h => h) (Or.inl ⟨by kernel_rfl, fun W _ => by go_simp⟩) hHeld ?_
          refine wpAnyH_ready (rs := [6]) (by kernel_rfl) (by simp) (AllReadyH.cons rfl (fun K' hK => ?_) AllReadyH.nil)
          rw [if_pos (by kernel_rfl)]
          go_simp
          refine (HI.out _).mono ?_
          rintro e w9 ⟨rfl, hb9⟩
          have Hb9 := Lib.hid (Hb8.out.trans (hb9.mono Hb8.out.size))
          clear hb9
          dsimp only
          refine hK.out _ _ trivial (fun hHeld => ?_)
          refine wpAnyH_take (i := 7) (v := .string (SX ++ ST ++ SI)) rfl (by kernel_rfl) (by kernel_rfl) (by kernel_rfl) (fun _ _ _ h => h) (Or.inl ⟨by kernel_rfl, fun W _ => by go_simp; omega⟩) hHeld ?_
          refine wpAnyH_take (i := 12) (v := .string (SX ++ ST ++ SI)) rfl (by kernel_rfl) (by kernel_rfl) (by kernel_rfl) (fun _ _ _ h => h) (Or.inl ⟨by kernel_rfl, fun W _ => by go_simp⟩) hHeld ?_
          refine wpAnyH_take (i := 13) (v := .int .i64 q) rfl (by kernel_rfl) (by kernel_rfl) (by kernel_rfl) (fun _ _ _ h => h) (Or.inl ⟨by kernel_rfl, fun W _ => by go_simp⟩) hHeld ?_
          refine wpAnyH_done (by kernel_rfl) ?_ _
          go_wp2_with fail
          go_ret2
          exact ⟨by rw [← HC'.out]; rfl, Hb9.out⟩
      · have hmt : (n : Int).tmod (d : Int) = ((n % d : Nat) : Int) := by rw [Int.tmod_eq_emod_of_nonneg (by omega)]; omega
        have hlt : d < P := by
          rcases Nat.lt_or_ge d P with g | g
          · exact g
          · obtain rfl : d = P := by omega
            exact absurd F3.out hm
        have Hlt := Lib.hid hlt
        generalize n % d = r at *
        have hrb : ((r : Int) == 0) = false := by
          rw [beq_eq_false_iff_ne]
          intro e
          exact hm (by omega)
        clear hlt F3 F4 F5 F6 HE HP HS HI
        generalize n / d = q at *
        generalize l.take d = ld at *
        have h1' := Lib.hid h1
        go_upto_region 5 with fail
        have Hb5 : Hid (Below w.heap.size w wr.drew) := Hbel.out.drew
        refine wp_region_held_drew (S := fun _ => True) (by kernel_rfl) trivial (fun hHeld => ?_)
        refine wpAnyH_take (i := 0) (v := .string SL) rfl (by kernel_rfl) (by kernel_rfl) (by kernel_rfl) (fun _ _ _ h => h) (Or.inl ⟨by kernel_rfl, fun W _ => by go_simp⟩) hHeld ?_
        refine wpAnyH_take (i := 1) (v := .int .i64 n) rfl (by kernel_rfl) (by kernel_rfl) (by kernel_rfl) (fun _ _ _ h => h) (Or.inl ⟨by kernel_rfl, fun W _ => by go_simp⟩) hHeld ?_
        refine wpAnyH_take (i := 2) (v := .int .i64 d) rfl (by kernel_rfl) (by kernel_rfl) (by kernel_rfl) (fun _ _ _ h => h) (Or.inl ⟨by kernel_rfl, fun W _ => by go_simp⟩) hHeld ?_
        refine wpAnyH_take (i := 3) (v := .int .i64 r) rfl (by kernel_rfl) (by kernel_rfl) (by kernel_rfl) (fun _ _ _ h => h) (Or.inl ⟨by kernel_rfl, fun W _ => by go_simp⟩) hHeld ?_
        refine wpAnyH_take (i := 4) (v := .bool false) rfl (by kernel_rfl) (by kernel_rfl) (by kernel_rfl) (fun _ _ _ h => h) (Or.inl ⟨by kernel_rfl, fun W _ => by go_simp⟩) hHeld ?_
        refine wpAnyH_take (i := 5) (v := .bool false) rfl (by kernel_rfl) (by kernel_rfl) (by kernel_rfl) (fun _ _ _ h => h) (Or.inl ⟨by kernel_rfl, fun W _ => by go_simp⟩) hHeld ?_
        refine wpAnyH_take (i := 6) (v := undef) rfl (by kernel_rfl) (by kernel_rfl) (by kernel_rfl) (fun _ _ _ h => h) (Or.inr ⟨by kernel_rfl, rfl⟩) hHeld ?_
        refine wpAnyH_take (i := 7) (v := undef) rfl (by kernel_rfl) (by kernel_rfl) (by kernel_rfl) (fun _ _ _ h => h) (Or.inr ⟨by kernel_rfl, rfl⟩) hHeld ?_
        refine wpAnyH_take (i := 8) (v := undef) rfl (by kernel_rfl) (by kernel_rfl) (by kernel_rfl) (fun _ _ _ h => h) (Or.inr ⟨by kernel_rfl, rfl⟩) hHeld ?_
        refine wpAnyH_take (i := 9) (v := undef) rfl (by kernel_rfl) (by kernel_rfl) (by kernel_rfl) (fun _ _ _ h => h) (Or.inr ⟨by kernel_rfl, rfl⟩) hHeld ?_
        refine wpAnyH_take (i := 10) (v := undef) rfl (by kernel_rfl) (by kernel_rfl) (by kernel_rfl) (fun _ _ _ h => h) (Or.inr ⟨by kernel_rfl, rfl⟩) hHeld ?_
        refine wpAnyH_take (i := 11) (v := undef) rfl (by kernel_rfl) (by kernel_rfl) (by kernel_rfl) (fun _ _ _ h => h) (Or.inr ⟨by kernel_rfl, rfl⟩) hHeld ?_
        refine wpAnyH_take (i := 12) (v := undef) rfl (by kernel_rfl) (by kernel_rfl) (by kernel_rfl) (fun _ _ _ h => h) (Or.inr ⟨by kernel_rfl, rfl⟩) hHeld ?_
        refine wpAnyH_take (i := 13) (v := undef) rfl (by kernel_rfl) (by kernel_rfl) (by kernel_rfl) (fun _ _ _ h => h) (Or.inr ⟨by kernel_rfl, rfl⟩) hHeld ?_
        refine wpAnyH_take (i := 14) (v := undef) rfl (by kernel_rfl) (by kernel_rfl) (by kernel_rfl) (fun _ _ _ h => h) (Or.inr ⟨by kernel_rfl, rfl⟩) hHeld ?_
        refine wpAnyH_take (i := 15) (v := undef) rfl (by kernel_rfl) (by kernel_rfl) (by kernel_rfl) (fun _ _ _ h => h) (Or.inr ⟨by kernel_rfl, rfl⟩) hHeld ?_
        refine wpAnyH_take (i := 16) (v := .bool false) rfl (by kernel_rfl) (by kernel_rfl) (by kernel_rfl) (fun _ _ _ h => h) (Or.inl ⟨by kernel_rfl, fun W _ => by go_simp⟩) hHeld ?_
        refine wpAnyH_done (by kernel_rfl) ?_ _
        clear hmt Hbel
        go_simp
        go_wp2_with fail
        go_roundw
        case rel => exact ⟨d + 1, by omega, Hlt.out, by go_num, Hb5.out⟩
        case measure => have := Hlt.out; simp [intOf]; omega

end Go.Proofs.Ytojjpbeaifiejaa

namespace Go.Proofs.Ytojjpbeaifiejaa
open Go.RowKit Go.Shelf

theorem results_tmp4 {fn : Func} {t u v x : Tmp} (h : fn.results = #[.tmp t, .tmp u, .tmp v, .tmp x]) (tmps : Array Value) (P : Program) (w : World) :
    (results fn tmps).run P w = .ok (.tuple #[tmps.getD t undef, tmps.getD u undef, tmps.getD v undef, tmps.getD x undef]) w := by
  simp [results, h]

theorem strL_ne {l : List Nat} (hl : ∀ c ∈ l, c < 256) (h : l ≠ []) : ((strL l).toList == []) = false := by
  rw [beq_eq_false_iff_ne]
  intro e
  refine h ?_
  rw [← letters_strL hl]
  unfold lettersOf
  rw [← ByteArray.toList_eq, e]
  rfl

set_option maxRecDepth 100000 in
set_option maxHeartbeats 2000000 in
theorem rcommute_any (u v : ByteArray) (w : World) (hu : IsWord (lettersOf u)) (hv : IsWord (lettersOf v)) (hus : u.size ≤ 5000) (hvs : v.size ≤ 5000) :
    Calls Try.prog 30 #[.string u, .string v] w fun e w' => ∃ V, V = comV (redL (lettersOf u)) (redL (lettersOf v)) ∧ e = .returned (.tuple #[.string V.1, .int .i64 V.2.1, .int .i64 V.2.2.1, .bool V.2.2.2]) ∧ Below w.heap.size w w' := by
  have HR1 := Lib.hid (fun W => rreduce_any u W hu (by omega))
  have HR2 := Lib.hid (fun W => rreduce_any v W hv (by omega))
  have hwa := red_word hu
  have hwb := red_word hv
  have hra := red_red hu
  have hrb := red_red hv
  have hla := redL_length (lettersOf u)
  have hlb := redL_length (lettersOf v)
  have hlu := lettersOf_length u
  have hlv := lettersOf_length v
  generalize redL (lettersOf u) = a at *
  generalize redL (lettersOf v) = b at *
  have ea : lettersOf (strL a) = a := letters_strL hwa.lt256
  have eb : lettersOf (strL b) = b := letters_strL hwb.lt256
  have za : (strL a).size ≤ 5000 := by rw [strL_size]; omega
  have zb : (strL b).size ≤ 5000 := by rw [strL_size]; omega
  have hla' : a.length ≤ 5000 := by omega
  have hlb' : b.length ≤ 5000 := by omega
  have HG1 : Hid (∀ W, Calls Try.prog 28 #[.string (strL a)] W fun e w' => e = .returned (.tuple #[.string (strL (rootL a)), .int .i64 (powL a)]) ∧ Below W.heap.size W w') := fun W => by
    have h := rroot_any (strL a) W (by rw [ea]; exact hwa) (by omega)
    rwa [ea, hra] at h
  have HG2 : Hid (∀ W, Calls Try.prog 28 #[.string (strL b)] W fun e w' => e = .returned (.tuple #[.string (strL (rootL b)), .int .i64 (powL b)]) ∧ Below W.heap.size W w') := fun W => by
    have h := rroot_any (strL b) W (by rw [eb]; exact hwb) (by omega)
    rwa [eb, hrb] at h
  have HS : Hid (∀ W, Calls Try.prog 37 #[.string (strL a ++ strL b), .string (strL b ++ strL a)] W fun e w' => e = .returned (.bool (decide (redL (a ++ b) = redL (b ++ a)))) ∧ Below W.heap.size W w') := fun W => by
    have wab := hwa.append hwb
    have wba := hwb.append hwa
    have h := rsame_any (strL a ++ strL b) (strL b ++ strL a) W (by rw [strL_append, letters_strL wab.lt256]; exact wab) (by rw [strL_append, letters_strL wba.lt256]; exact wba) (by rw [ByteArray.size_append]; omega) (by rw [ByteArray.size_append]; omega)
    rwa [strL_append, strL_append, letters_strL wab.lt256, letters_strL wba.lt256, ← strL_append, ← strL_append] at h
  have hwra := root_isword hwa
  have hwrb := root_isword hwb
  have hE := strL_eq hwrb.lt256 hwra.lt256
  have hpb := Nat.le_trans (pow_le b) hlb'
  have hpa := Nat.le_trans (pow_le a) hla'
  have hnegw : IntKind.i64.wrap (-(powL b : Int)) = -(powL b : Int) := IntWalk.i64_in _ (by omega)
  have Hiff := Lib.hid (fun na nb => commute_iff hwa hra na hwb hrb nb)
  have Hinv : Hid (rootL b = invL (rootL a) → rootL a = invL (rootL b)) := fun e => by rw [e, invL_invL hwra]
  have hV : comV a b = comV a b := rfl
  conv at hV => rhs; unfold comV
  generalize comV a b = V at *
  have HV := Lib.hid hV
  clear hV hu hv hlu hlv hla hlb ea eb
  by_cases ha : a = []
  · subst ha
    by_cases hb : b = []
    · subst hb
      have hV := HV.out
      rw [if_pos rfl, root_nil, pow_nil] at hV
      have HV2 := Lib.hid hV
      clear HV hV HG1 HG2 HS Hiff Hinv hE hnegw
      rw [strL_nil] at *
      go_enter Try.func30, Try.ntmps30
      go_wp2_with (first
        | (go_at_call 18; refine (HR1.out _).mono ?_; clear HR1; rintro e w2 ⟨rfl, hb2⟩)
        | (go_at_call 18; refine (HR2.out _).mono ?_; clear HR2; rintro e w3 ⟨rfl, hb3⟩; have hb03 := hb2.trans (hb3.mono hb2.size)))
      ((try simp only [Exit.inBlock, Exit.then]); refine bodyPost_ret (results_tmp4 rfl _ _ _) rfl ?_)
      exact ⟨V, rfl, by rw [HV2.out]; rfl, hb03⟩
    · have hnb := strL_ne hwb.lt256 hb
      have hV := HV.out
      rw [if_pos rfl] at hV
      have HV2 := Lib.hid hV
      have hd : decide (redL ([] ++ b) = redL (b ++ [])) = true := decide_eq_true (by rw [List.nil_append, List.append_nil])
      rw [hd] at HS
      clear HV hV HG1 Hiff Hinv hE hnegw hd
      rw [strL_nil] at *
      go_enter Try.func30, Try.ntmps30
      go_wp2_with (first
        | (go_at_call 18; refine (HR1.out _).mono ?_; clear HR1; rintro e w2 ⟨rfl, hb2⟩)
        | (go_at_call 18; refine (HR2.out _).mono ?_; clear HR2; rintro e w3 ⟨rfl, hb3⟩; have hb03 := hb2.trans (hb3.mono hb2.size))
        | (go_at_call 37; refine (HS.out _).mono ?_; clear HS; rintro e w4 ⟨rfl, hb4⟩; have hb04 := hb03.trans (hb4.mono hb03.size))
        | (go_at_call 28; refine (HG2.out _).mono ?_; clear HG2; rintro e w5 ⟨rfl, hb5⟩; have hb05 := hb04.trans (hb5.mono hb04.size)))
      ((try simp only [Exit.inBlock, Exit.then]); refine bodyPost_ret (results_tmp4 rfl _ _ _) rfl ?_)
      exact ⟨V, rfl, by rw [HV2.out]; rfl, hb05⟩
  · have hna := strL_ne hwa.lt256 ha
    by_cases hb : b = []
    · subst hb
      have hV := HV.out
      rw [if_neg ha, if_pos (Or.inl rfl), pow_nil] at hV
      have HV2 := Lib.hid hV
      have hd : decide (redL (a ++ []) = redL ([] ++ a)) = true := decide_eq_true (by rw [List.nil_append, List.append_nil])
      rw [hd] at HS
      clear HV hV HG2 Hiff Hinv hE hnegw hd
      rw [strL_nil] at *
      go_enter Try.func30, Try.ntmps30
      go_wp2_with (first
        | (go_at_call 18; refine (HR1.out _).mono ?_; clear HR1; rintro e w2 ⟨rfl, hb2⟩)
        | (go_at_call 18; refine (HR2.out _).mono ?_; clear HR2; rintro e w3 ⟨rfl, hb3⟩; have hb03 := hb2.trans (hb3.mono hb2.size))
        | (go_at_call 37; refine (HS.out _).mono ?_; clear HS; rintro e w4 ⟨rfl, hb4⟩; have hb04 := hb03.trans (hb4.mono hb03.size))
        | (go_at_call 28; refine (HG1.out _).mono ?_; clear HG1; rintro e w5 ⟨rfl, hb5⟩; have hb05 := hb04.trans (hb5.mono hb04.size)))
      ((try simp only [Exit.inBlock, Exit.then]); refine bodyPost_ret (results_tmp4 rfl _ _ _) rfl ?_)
      exact ⟨V, rfl, by rw [HV2.out]; rfl, hb05⟩
    · have hnb := strL_ne hwb.lt256 hb
      have hiff := Hiff.out ha hb
      by_cases hc : redL (a ++ b) = redL (b ++ a)
      · rw [decide_eq_true hc] at HS
        have hor := hiff.1 hc
        by_cases hr : rootL a = rootL b
        · have hV := HV.out
          rw [if_neg ha, if_pos (Or.inr hr)] at hV
          have HV2 := Lib.hid hV
          rw [decide_eq_true hr.symm] at hE
          clear HV hV Hiff Hinv hnegw hiff hor hr hc
          go_enter Try.func30, Try.ntmps30
          go_wp2_with (first
            | (go_at_call 18; refine (HR1.out _).mono ?_; clear HR1; rintro e w2 ⟨rfl, hb2⟩)
            | (go_at_call 18; refine (HR2.out _).mono ?_; clear HR2; rintro e w3 ⟨rfl, hb3⟩; have hb03 := hb2.trans (hb3.mono hb2.size))
            | (go_at_call 37; refine (HS.out _).mono ?_; clear HS; rintro e w4 ⟨rfl, hb4⟩; have hb04 := hb03.trans (hb4.mono hb03.size))
            | (go_at_call 28; refine (HG1.out _).mono ?_; clear HG1; rintro e w5 ⟨rfl, hb5⟩; have hb05 := hb04.trans (hb5.mono hb04.size))
            | (go_at_call 28; refine (HG2.out _).mono ?_; clear HG2; rintro e w6 ⟨rfl, hb6⟩; have hb06 := hb05.trans (hb6.mono hb05.size)))
          ((try simp only [Exit.inBlock, Exit.then]); refine bodyPost_ret (results_tmp4 rfl _ _ _) rfl ?_)
          exact ⟨V, rfl, by rw [HV2.out]; rfl, hb06⟩
        · have hi : rootL a = invL (rootL b) := by
            rcases hor with e | e
            · exact absurd e.symm hr
            · exact Hinv.out e
          have hV := HV.out
          rw [if_neg ha, if_neg (fun h => h.elim hb hr), if_pos hi] at hV
          have HV2 := Lib.hid hV
          rw [decide_eq_false (fun e => hr e.symm)] at hE
          clear HV hV Hiff Hinv hiff hor hr hc hi
          go_enter Try.func30, Try.ntmps30
          go_wp2_with (first
            | (go_at_call 18; refine (HR1.out _).mono ?_; clear HR1; rintro e w2 ⟨rfl, hb2⟩)
            | (go_at_call 18; refine (HR2.out _).mono ?_; clear HR2; rintro e w3 ⟨rfl, hb3⟩; have hb03 := hb2.trans (hb3.mono hb2.size))
            | (go_at_call 37; refine (HS.out _).mono ?_; clear HS; rintro e w4 ⟨rfl, hb4⟩; have hb04 := hb03.trans (hb4.mono hb03.size))
            | (go_at_call 28; refine (HG1.out _).mono ?_; clear HG1; rintro e w5 ⟨rfl, hb5⟩; have hb05 := hb04.trans (hb5.mono hb04.size))
            | (go_at_call 28; refine (HG2.out _).mono ?_; clear HG2; rintro e w6 ⟨rfl, hb6⟩; have hb06 := hb05.trans (hb6.mono hb05.size)))
          ((try simp only [Exit.inBlock, Exit.then]); refine bodyPost_ret (results_tmp4 rfl _ _ _) rfl ?_)
          exact ⟨V, rfl, by rw [HV2.out]; rfl, hb06⟩
      · rw [decide_eq_false hc] at HS
        have hno : ¬ (rootL b = rootL a ∨ rootL b = invL (rootL a)) := fun h => hc (hiff.2 h)
        have hinv2 : rootL a = invL (rootL b) → rootL b = invL (rootL a) := fun e => by rw [e, invL_invL hwrb]
        have hV := HV.out
        rw [if_neg ha, if_neg (fun h => h.elim hb (fun e => hno (Or.inl e.symm))), if_neg (fun e => hno (Or.inr (hinv2 e)))] at hV
        have HV2 := Lib.hid hV
        clear HV hV Hiff Hinv hE hnegw hiff hno hinv2 hc HG1 HG2
        go_enter Try.func30, Try.ntmps30
        go_wp2_with (first
          | (go_at_call 18; refine (HR1.out _).mono ?_; clear HR1; rintro e w2 ⟨rfl, hb2⟩)
          | (go_at_call 18; refine (HR2.out _).mono ?_; clear HR2; rintro e w3 ⟨rfl, hb3⟩; have hb03 := hb2.trans (hb3.mono hb2.size))
          | (go_at_call 37; refine (HS.out _).mono ?_; clear HS; rintro e w4 ⟨rfl, hb4⟩; have hb04 := hb03.trans (hb4.mono hb03.size)))
        ((try simp only [Exit.inBlock, Exit.then]); refine bodyPost_ret (results_tmp4 rfl _ _ _) rfl ?_)
        exact ⟨V, rfl, by rw [HV2.out]; rfl, hb04⟩

/-- What Root returns of any string: the root, the power, and the error. -/
def errR (l : List Nat) : Nat := if checkN l = 0 then (if redL l = [] then 4 else 0) else checkN l
def rootS (l : List Nat) : ByteArray := if checkN l = 0 then strL (rootL (redL l)) else ⟨#[]⟩
def rootN (l : List Nat) : Nat := if checkN l = 0 then powL (redL l) else 0

set_option maxRecDepth 100000 in
theorem root_empty (s : ByteArray) (w : World) (hsz : s.size ≤ 1000000000) (hc : checkN (lettersOf s) = 0) (h0 : redL (lettersOf s) = []) :
    Calls Try.prog 13 #[.string s] w fun e w' => e = .returned (.tuple #[.string ⟨#[]⟩, .int .i64 0, .int .i64 4]) ∧ Below w.heap.size w w' := by
  obtain ⟨hword, hlen⟩ := checkN_zero hc
  have hl := lettersOf_length s
  have Hchk := Lib.hid (check_any s w hsz)
  rw [hc] at Hchk
  have Hred := Lib.hid (fun W => reduced_any s W hword (by omega))
  rw [h0] at Hred
  have Hroot := Lib.hid (fun (W : World) (v : Value) (B : Nat) (hW : Wire B [] W v) => show Calls Try.prog 41 #[v] W (RetRoot [] W) by
    obtain ⟨A, c, rfl⟩ := own_slice' hW.own
    exact root_none A c W)
  unfold RetRoot at Hroot
  rw [root_nil, pow_nil] at Hroot
  clear hword hlen hc h0 hl
  go_enter Try.func13, Try.ntmps13
  go_wp2_with (first
    | (go_at_call 38; refine Hchk.out.mono ?_; clear Hchk; rintro e w1 ⟨rfl, hb1⟩)
    | (go_at_call 39; refine (Hred.out _).mono ?_; clear Hred; rintro e w2 ⟨v2, rfl, hW2, hb2⟩; have hb12 := hb1.trans (hb2.mono hb1.size))
    | (go_at_call 41; refine (Hroot.out _ _ _ hW2).mono ?_; clear Hroot; rintro e w3 ⟨v3, rfl, hW3, hb3⟩))
  go_ret3
  exact ⟨rfl, hb12.trans (hb3.mono hb12.size)⟩

theorem root_res (s : ByteArray) (m : Int) (W : World) (hsz : s.size ≤ 10000) (hW : Cell0 m W) :
    Calls Try.prog 13 #[.string s] W fun e w' => e = .returned (.tuple #[.string (rootS (lettersOf s)), .int .i64 (rootN (lettersOf s)), .int .i64 (errR (lettersOf s))]) ∧ Below W.heap.size W w' := by
  unfold rootS rootN errR
  by_cases hc : checkN (lettersOf s) = 0
  · rw [if_pos hc, if_pos hc, if_pos hc]
    have hw := (checkN_zero hc).1
    by_cases h0 : redL (lettersOf s) = []
    · rw [if_pos h0]
      have h := root_empty s W (by omega) hc h0
      rw [h0, root_nil, pow_nil]
      exact h
    · rw [if_neg h0]
      exact rootOf_any s m W (by omega) hc (root_pow (red_word hw) (red_red hw) h0).1 hW.1 hW.2
  · rw [if_neg hc, if_neg hc, if_neg hc]
    exact root_bad s W (by omega) hc

/-- What Commute returns of any two strings, but for the error. -/
def comW (a b : List Nat) : ByteArray × Int × Int × Bool := if chk2 a b = 0 then comV (redL a) (redL b) else (⟨#[]⟩, 0, 0, false)

set_option maxRecDepth 100000 in
set_option maxHeartbeats 1000000 in
theorem commute_bad (u v : ByteArray) (w : World) (hu : u.size ≤ 1000000000) (hv : v.size ≤ 1000000000) (hc : chk2 (lettersOf u) (lettersOf v) ≠ 0) :
    Calls Try.prog 29 #[.string u, .string v] w fun e w' => e = .returned (.tuple #[.string ⟨#[]⟩, .int .i64 0, .int .i64 0, .bool false, .int .i64 (chk2 (lettersOf u) (lettersOf v))]) ∧ Below w.heap.size w w' := by
  have Hchk := Lib.hid (checkAll_two u v w.heap.size (w.alloc (.cells #[.string u, .string v] 9)) hu hv (Blk.new _ _ _))
  have hbx := below_new' w (.cells #[.string u, .string v] 9)
  obtain ⟨z, hz⟩ : ∃ z : Int, z = (chk2 (lettersOf u) (lettersOf v) : Nat) := ⟨_, rfl⟩
  have hz0 : ¬ z = 0 := by omega
  have hzb : (z == 0) = false := by simpa using hz0
  rw [← hz] at Hchk ⊢
  clear hz hc
  go_enter Try.func29, Try.ntmps29
  go_wp2_with (go_at_call 61; refine Hchk.out.mono ?_; clear Hchk; rintro e w1 ⟨rfl, hb1⟩)
  ((try simp only [Exit.inBlock, Exit.then]); refine bodyPost_ret (results_tmp5 rfl _ _ _) rfl ?_)
  exact ⟨rfl, hbx.trans (hb1.mono hbx.size)⟩

theorem commute_res (u v : ByteArray) (m : Int) (W : World) (hu : u.size ≤ 10000) (hv : v.size ≤ 10000) (hW : Cell0 m W) :
    Calls Try.prog 29 #[.string u, .string v] W fun e w' => ∃ V, V = comW (lettersOf u) (lettersOf v) ∧ e = .returned (.tuple #[.string V.1, .int .i64 V.2.1, .int .i64 V.2.2.1, .bool V.2.2.2, .int .i64 (chk2 (lettersOf u) (lettersOf v))]) ∧ Below W.heap.size W w' := by
  refine Calls.mono ?_ (fun e w' h => ⟨_, rfl, h⟩)
  unfold comW
  by_cases hc : chk2 (lettersOf u) (lettersOf v) = 0
  · have hca : checkN (lettersOf u) = 0 := by unfold chk2 at hc; split at hc <;> assumption
    have hcb : checkN (lettersOf v) = 0 := by unfold chk2 at hc; rw [if_pos hca] at hc; exact hc
    rw [if_pos hc, hc]
    exact commute_any u v m W (by omega) (by omega) hca hcb hW.1 hW.2
  · rw [if_neg hc]
    exact commute_bad u v W (by omega) (by omega) hc

end Go.Proofs.Ytojjpbeaifiejaa
