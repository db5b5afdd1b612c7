/-
  The walks of root (of any wire), and of slices.Equal.
  The walk of Commute.
  The walk of the reference's Power.
  What Commute returns, in words: whether two words commute, and of which word they are which powers; and when a commutator falls.
  What the calls of HangCommutes return of two words, whatever they are.
-/
import Derived.Test.YtojjpbeaifiejaaTurnC
import Derived.Test.YtojjpbeaifiejaaCommM
import Derived.Test.YtojjpbeaifiejaaLaw
import Derived.Test.YtojjpbeaifiejaaTurnA
import Derived.Lib.AppendStr
import Derived.Test.YtojjpbeaifiejaaWiresM
import Derived.Test.YtojjpbeaifiejaaRootX
import Derived.Test.YtojjpbeaifiejaaFallsW
import Derived.Test.YtojjpbeaifiejaaBackM
namespace Go.Proofs.Ytojjpbeaifiejaa
open Go.RowKit Go.Shelf

theorem wire_none (B : Nat) (w : World) (h : B ≤ w.heap.size) : Wire B [] w (.slice none 0 0) := ⟨⟨rfl, Or.inl ⟨rfl, rfl⟩⟩, h⟩
theorem root_nil : rootL [] = [] := by decide
theorem pow_nil : powL [] = 0 := by decide

set_option maxRecDepth 100000 in
theorem root_none (A : Option Addr) (c : Nat) (w : World) : Calls Try.prog 41 #[.slice A 0 c] w (RetRoot [] w) := by
  have Hs := Lib.hid (split_none A c w)
  go_enter Try.func41, Try.ntmps41
  go_wp2_with (go_at_call 63; refine Hs.out.mono ?_; rintro e w1 ⟨A1, c1, A2, c2, rfl, hS1, hS2, hc1, hc2, hd⟩)
  go_ret2
  have hb1 : Below w.heap.size w w1 := hd.below
  have hw := wire_none w.heap.size w1 hb1.size
  refine ⟨.slice none 0 0, ?_, ?_, hb1⟩
  · rw [pow_nil]; rfl
  · rw [root_nil]; exact hw

theorem root_gen (v : Value) (l : List Nat) (B : Nat) (m : Int) (w : World) (hW : Wire B l w v) (hword : IsWord l) (hn : l.length ≤ 1000000) (hlo : l ≠ [] → Looped l) (hm : w.cell? ⟨0, 0, none⟩ = some (.int .i64 m)) (hw0 : 0 < w.heap.size) :
    Calls Try.prog 41 #[v] w (RetRoot l w) := by
  by_cases h0 : l = []
  · subst h0
    obtain ⟨A, c, rfl⟩ := own_slice' hW.own
    exact root_none A c w
  · obtain ⟨g, cap, rfl⟩ := own_pos hW.own (List.length_pos_iff.2 h0)
    have hmx := own_capmax hW.own
    unfold maxLen at hmx
    exact root_any g 0 _ cap l m w (own_sl hW.own (by omega)) hword hn (own_capd hW.own) hmx (hlo h0) hm hw0

theorem nums_eq (l m : List Nat) (n : Nat) (h1 : l.length = n) (h2 : m.length = n) (h : ∀ i, i < n → l.getD i 0 = m.getD i 0) : l = m := by
  apply List.ext_getElem (by omega)
  intro i hi hj
  have := h i (by omega)
  rw [List.getD_eq_getElem?_getD, List.getD_eq_getElem?_getD, List.getElem?_eq_getElem hi, List.getElem?_eq_getElem hj] at this
  exact this

set_option maxRecDepth 100000 in
set_option maxHeartbeats 1000000 in
theorem equal_any (A B : Option Addr) (n m c d : Nat) (ss ts : List Nat) (w : World) (hS : Sl .u8 w A n ss) (hT : Sl .u8 w B m ts) :
    Calls Try.prog 62 #[.slice A n c, .slice B m d] w fun e w' => e = .returned (.bool (decide (ss = ts))) ∧ Below w.heap.size w w' := by
  have hn := hS.max
  have hm := hT.max
  have Hls := Lib.hid hS.1
  have Hlt := Lib.hid hT.1
  have HS := Lib.hid hS.2.2
  have HT := Lib.hid hT.2.2
  clear hS hT
  go_enter Try.func62, Try.ntmps62
  by_cases he : n = m
  · subst he
    go_wp2_with fail
    go_loopw [13] (fun kv wr => ∃ k : Nat, k ≤ n ∧ kv = .int .i64 k ∧ Drew w wr ∧ ∀ i, i < k → ss.getD i 0 = ts.getD i 0) (fun kv _ => n - (intOf kv).toNat)
    case atStart => exact ⟨0, Nat.zero_le _, rfl, Drew.refl _, fun i hi => absurd hi (Nat.not_lt_zero _)⟩
    case round =>
      obtain ⟨k, hk, rfl, hd, hall⟩ := hrel
      obtain ⟨q, rfl⟩ := hd
      have Hall := Lib.hid hall
      clear hall
      by_cases hlt : k < n
      · obtain ⟨b1, o1, rfl, hb1, hg1⟩ := HS.out (by omega)
        obtain ⟨b2, o2, rfl, hb2, hg2⟩ := HT.out (by omega)
        have hc1 := hg1 k hlt
        have hc2 := hg2 k hlt
        clear hg1 hg2
        have Hstep : Hid (ss.getD k 0 = ts.getD k 0 → ∀ i, i < k + 1 → ss.getD i 0 = ts.getD i 0) := fun h i hi => by
          rcases Nat.lt_or_ge i k with g | g
          · exact Hall.out i g
          · obtain rfl : i = k := by omega
            exact h
        have Hne : Hid (ss.getD k 0 ≠ ts.getD k 0 → ¬ ss = ts) := fun h e => h (by rw [e])
        obtain ⟨x, hx⟩ : ∃ x, ss.getD k 0 = x := ⟨_, rfl⟩
        obtain ⟨y, hy⟩ : ∃ y, ts.getD k 0 = y := ⟨_, rfl⟩
        rw [hx] at hc1 Hstep Hne
        rw [hy] at hc2 Hstep Hne
        clear hx hy
        have hkni : (k : Int) < (n : Int) := by omega
        by_cases hxy : x = y
        · subst hxy
          have hst := Hstep.out rfl
          have Hst := Lib.hid hst
          clear Hstep Hne hst
          go_wp2_with fail
          go_quiet (fail)
          go_wp2_with fail
          go_roundw
          case rel => exact ⟨k + 1, by omega, by go_num, ⟨_, rfl⟩, Hst.out⟩
          case measure => simp [intOf]; omega
        · have hbe : ((x : Int) == (y : Int)) = false := by
            have : ((x : Int) ≠ (y : Int)) := by omega
            simpa using this
          have hss := Hne.out hxy
          have Hss := Lib.hid hss
          clear Hstep Hne hss
          go_wp2_with fail
          go_quiet (fail)
          go_wp2_with fail
          go_ret
          exact ⟨by rw [decide_eq_false Hss.out]; rfl, below_drewN (below_drewN (Below.refl _ _) _) _⟩
      · obtain rfl : k = n := by omega
        have hss : ss = ts := nums_eq ss ts k Hls.out Hlt.out Hall.out
        go_wp2_with fail
        go_ret
        exact ⟨by rw [decide_eq_true hss]; rfl, below_drewN (Below.refl _ _) q⟩
  · have hne : ((n : Int) == (m : Int)) = false := by
      have : ((n : Int) ≠ (m : Int)) := by omega
      simpa using this
    have hss : ¬ ss = ts := fun e => he (by rw [← Hls.out, ← Hlt.out, e])
    go_wp2_with fail
    go_ret
    exact ⟨by rw [decide_eq_false hss]; rfl, Below.refl _ _⟩

end Go.Proofs.Ytojjpbeaifiejaa

namespace Go.Proofs.Ytojjpbeaifiejaa
open Go.RowKit Go.Shelf

theorem results_tmp5 {fn : Func} {t u v x y : Tmp} (h : fn.results = #[.tmp t, .tmp u, .tmp v, .tmp x, .tmp y]) (tmps : Array Value) (P : Program) (w : World) :
    (results fn tmps).run P w = .ok (.tuple #[tmps.getD t undef, tmps.getD u undef, tmps.getD v undef, tmps.getD x undef, tmps.getD y undef]) w := by
  simp [results, h]

/-- What Commute returns of two reduced words. -/
def comV (a b : List Nat) : ByteArray × Int × Int × Bool :=
  if a = [] then (strL (rootL b), 0, powL b, true)
  else if b = [] ∨ rootL a = rootL b then (strL (rootL a), powL a, powL b, true)
  else if rootL a = invL (rootL b) then (strL (rootL a), powL a, -(powL b : Int), true)
  else (⟨#[]⟩, 0, 0, false)
def RetCom (a b : List Nat) (w : World) (e : Ending) (w' : World) : Prop :=
  e = .returned (.tuple #[.string (comV a b).1, .int .i64 (comV a b).2.1, .int .i64 (comV a b).2.2.1, .bool (comV a b).2.2.2, .int .i64 0]) ∧ Below w.heap.size w w'

theorem pow_le (l : List Nat) : powL l ≤ l.length := by
  unfold powL
  have := loopL_length l
  exact Nat.le_trans (Nat.div_le_self _ _) (by omega)
theorem root_len (l : List Nat) : (rootL l).length ≤ 3 * l.length := by
  unfold rootL
  refine Nat.le_trans (redL_length _) ?_
  rw [List.length_append, List.length_append, invL_length]
  unfold handleL
  have := loopL_length l
  rw [List.length_take, List.length_take]
  omega
theorem root_isword {l : List Nat} (h : IsWord l) : IsWord (rootL l) := red_word ((handle_word h).append (((loop_word h).take _).append (invL_word (handle_word h))))

set_option maxRecDepth 100000 in
set_option maxHeartbeats 2000000 in
theorem commute_any (u v : ByteArray) (m : Int) (w : World) (hu : u.size ≤ 1000000000) (hv : v.size ≤ 1000000000) (hcu : checkN (lettersOf u) = 0) (hcv : checkN (lettersOf v) = 0) (hm : w.cell? ⟨0, 0, none⟩ = some (.int .i64 m)) (hw0 : 0 < w.heap.size) :
    Calls Try.prog 29 #[.string u, .string v] w (RetCom (redL (lettersOf u)) (redL (lettersOf v)) w) := by
  obtain ⟨hwu, hlu⟩ := checkN_zero hcu
  obtain ⟨hwv, hlv⟩ := checkN_zero hcv
  have hsu := lettersOf_length u
  have hsv := lettersOf_length v
  have Hchk := Lib.hid (checkAll_two u v w.heap.size (w.alloc (.cells #[.string u, .string v] 9)) hu hv (Blk.new _ _ _))
  rw [show chk2 (lettersOf u) (lettersOf v) = 0 by unfold chk2; rw [if_pos hcu, hcv]] at Hchk
  have hbx := below_new' w (.cells #[.string u, .string v] 9)
  have HR1 := Lib.hid (fun W => reduced_any u W hwu (by omega))
  have HR2 := Lib.hid (fun W => reduced_any v W hwv (by omega))
  have hwa := red_word hwu
  have hwb := red_word hwv
  have hra := red_red hwu
  have hrb := red_red hwv
  have hla : (redL (lettersOf u)).length ≤ 30000 := Nat.le_trans (redL_length _) hlu
  have hlb : (redL (lettersOf v)).length ≤ 30000 := Nat.le_trans (redL_length _) hlv
  generalize redL (lettersOf u) = a at *
  generalize redL (lettersOf v) = b at *
  have HG1 := Lib.hid (fun (W : World) (x : Value) (B : Nat) (hW : Wire B a W x) (hb : Below w.heap.size w W) => root_gen x a B m W hW hwa (by omega) (fun hne => (root_pow hwa hra hne).1) ((hb.cell (p := ⟨0, 0, none⟩) hw0).trans hm) (Nat.lt_of_lt_of_le hw0 hb.size))
  have HG2 := Lib.hid (fun (W : World) (x : Value) (B : Nat) (hW : Wire B b W x) (hb : Below w.heap.size w W) => root_gen x b B m W hW hwb (by omega) (fun hne => (root_pow hwb hrb hne).1) ((hb.cell (p := ⟨0, 0, none⟩) hw0).trans hm) (Nat.lt_of_lt_of_le hw0 hb.size))
  unfold RetRoot at HG1 HG2
  have hpa : a ≠ [] → 0 < powL a := fun h => (root_pow hwa hra h).2.2.2.1
  have hpb : b ≠ [] → 0 < powL b := fun h => (root_pow hwb hrb h).2.2.2.1
  have ha0 : a = [] → powL a = 0 := fun h => by rw [h, pow_nil]
  have hb0 : b = [] → powL b = 0 := fun h => by rw [h, pow_nil]
  have hpl := Nat.le_trans (pow_le b) hlb
  have hpl1 := Nat.le_trans (pow_le a) hla
  have hrl1 : (rootL a).length ≤ 90000 := Nat.le_trans (root_len a) (by omega)
  have hrl2 : (rootL b).length ≤ 90000 := Nat.le_trans (root_len b) (by omega)
  have hrw1 := root_isword hwa
  have hrw2 := root_isword hwb
  unfold RetCom
  have hV : comV a b = comV a b := rfl
  conv at hV => rhs; unfold comV
  generalize comV a b = V at *
  clear hm hw0 hcu hcv hwu hlu hwv hlv hsu hsv hwa hwb hra hrb hla hlb
  generalize powL a = pa at *
  generalize powL b = pb at *
  have Hhyp := Lib.hid (And.intro hpa (And.intro hpb (And.intro ha0 hb0)))
  have HV := Lib.hid hV
  clear hpa hpb ha0 hb0 hV
  go_enter Try.func29, Try.ntmps29
  go_upto_region 4 with (go_at_call 61; refine Hchk.out.mono ?_; clear Hchk; rintro e w1 ⟨rfl, hb1⟩)
  have Hb01 := Lib.hid (hbx.trans (hb1.mono hbx.size))
  clear hbx hb1
  go_upto_region 5 with (first
    | (go_at_call 39; refine (HR1.out _).mono ?_; clear HR1; rintro e w2 ⟨v2, rfl, hW2, hb2⟩; have hb02 := Hb01.out.trans (hb2.mono Hb01.out.size))
    | (go_at_call 41; refine (HG1.out _ _ _ hW2 hb02).mono ?_; clear HG1; rintro e w3 ⟨v3, rfl, hW3, hb3⟩))
  have Hb03 := Lib.hid (hb02.trans (hb3.mono hb02.size))
  clear hb02 hb2 hb3 hW2 Hb01
  go_upto_region 6 with (first
    | (go_at_call 39; refine (HR2.out _).mono ?_; clear HR2; rintro e w4 ⟨v4, rfl, hW4, hb4⟩; have hb04 := Hb03.out.trans (hb4.mono Hb03.out.size))
    | (go_at_call 41; refine (HG2.out _ _ _ hW4 hb04).mono ?_; clear HG2; rintro e w5 ⟨v5, rfl, hW5, hb5⟩))
  have hb35 : Below w3.heap.size w3 w5 := hb4.trans (hb5.mono hb4.size)
  have Hb05 := Lib.hid (Hb03.out.trans (hb35.mono Hb03.out.size))
  have hW3' := wire_keep hW3 hb35
  have Hc3 := Lib.hid (fun (W : World) (hb : Below w5.heap.size w5 W) => wire_string (wire_keep hW3' hb))
  have hconv3 := wire_string hW3'
  have hconv5 := wire_string hW5
  obtain ⟨A3, c3, rfl, hS3⟩ := wire_sl hW3' (by omega)
  obtain ⟨A5, c5, rfl, hS5⟩ := wire_sl hW5 (by omega)
  have HE := Lib.hid (equal_any A3 A5 _ _ c3 c5 (rootL a) (rootL b) w5 hS3 hS5)
  have HI := Lib.hid (fun W (hb : Below w5.heap.size w5 W) => inverse_any A5 _ c5 (rootL b) W (hS5.below hb) hrw2 (by omega))
  have HE2 := Lib.hid (fun W (hb : Below w5.heap.size w5 W) (v6 : Value) (B : Nat) (hW6 : Wire B (invL (rootL b)) W v6) => show Calls Try.prog 62 #[.slice A3 (rootL a).length c3, v6] W fun e w' => e = .returned (.bool (decide (rootL a = invL (rootL b)))) ∧ Below W.heap.size W w' from by
    obtain ⟨A7, c7, e7, hS7⟩ := wire_sl hW6 (by rw [invL_length]; omega)
    subst e7
    exact equal_any A3 A7 _ _ c3 c7 (rootL a) _ W (hS3.below hb) hS7)
  clear hW3 hW3' hW4 hW5 hS3 hS5 hb4 hb5 hb35 hb04 Hb03
  by_cases ha : a = []
  · have hV : V = (strL (rootL b), 0, (pb : Int), true) := by rw [HV.out, if_pos ha]
    obtain rfl : pa = 0 := Hhyp.out.2.2.1 ha
    have HV2 := Lib.hid hV
    clear hV HV Hhyp
    go_wp2_with fail
    ((try simp only [Exit.inBlock, Exit.then]); refine bodyPost_ret (results_tmp5 rfl _ _ _) rfl ?_)
    exact ⟨by rw [HV2.out]; rfl, Hb05.out⟩
  · have hpa := Hhyp.out.1 ha
    have hpai : ((pa : Int) == 0) = false := by simp; omega
    by_cases hb : b = []
    · have hV : V = (strL (rootL a), (pa : Int), (pb : Int), true) := by rw [HV.out, if_neg ha, if_pos (Or.inl hb)]
      obtain rfl : pb = 0 := Hhyp.out.2.2.2 hb
      have HV2 := Lib.hid hV
      clear hV HV Hhyp
      go_wp2_with fail
      ((try simp only [Exit.inBlock, Exit.then]); refine bodyPost_ret (results_tmp5 rfl _ _ _) rfl ?_)
      exact ⟨by rw [HV2.out]; rfl, Hb05.out⟩
    · have hpb := Hhyp.out.2.1 hb
      have hpbi : ((pb : Int) == 0) = false := by simp; omega
      by_cases hr : rootL a = rootL b
      · have hV : V = (strL (rootL a), (pa : Int), (pb : Int), true) := by rw [HV.out, if_neg ha, if_pos (Or.inr hr)]
        have HV2 := Lib.hid hV
        rw [decide_eq_true hr] at HE
        clear hV HV Hhyp hr
        go_wp2_with (go_at_call 62; refine HE.out.mono ?_; clear HE; rintro e w6 ⟨rfl, hb6⟩; have hcv6 := Hc3.out w6 hb6)
        ((try simp only [Exit.inBlock, Exit.then]); refine bodyPost_ret (results_tmp5 rfl _ _ _) rfl ?_)
        exact ⟨by rw [HV2.out]; rfl, Hb05.out.trans (hb6.mono Hb05.out.size)⟩
      · rw [decide_eq_false hr] at HE
        have hpbw : IntKind.i64.wrap (-(pb : Int)) = -(pb : Int) := IntWalk.i64_in _ (by omega)
        by_cases hi : rootL a = invL (rootL b)
        · have hV : V = (strL (rootL a), (pa : Int), -(pb : Int), true) := by rw [HV.out, if_neg ha, if_neg (fun h => h.elim hb hr), if_pos hi]
          have HV2 := Lib.hid hV
          rw [decide_eq_true hi] at HE2
          clear hV HV Hhyp hr hi
          go_wp2_with (first
            | (go_at_call 62; refine HE.out.mono ?_; clear HE; rintro e w6 ⟨rfl, hb6⟩)
            | (go_at_call 40; refine (HI.out w6 hb6).mono ?_; clear HI; rintro e w7 ⟨v7, rfl, hW7, hb7⟩; have hb57 := hb6.trans (hb7.mono hb6.size))
            | (go_at_call 62; refine (HE2.out w7 hb57 v7 _ hW7).mono ?_; clear HE2; rintro e w8 ⟨rfl, hb8⟩; have hb58 := hb57.trans (hb8.mono hb57.size); have hcv8 := Hc3.out w8 hb58))
          ((try simp only [Exit.inBlock, Exit.then]); refine bodyPost_ret (results_tmp5 rfl _ _ _) rfl ?_)
          exact ⟨by rw [HV2.out]; rfl, Hb05.out.trans (hb58.mono Hb05.out.size)⟩
        · have hV : V = (⟨#[]⟩, 0, 0, false) := by rw [HV.out, if_neg ha, if_neg (fun h => h.elim hb hr), if_neg hi]
          have HV2 := Lib.hid hV
          rw [decide_eq_false hi] at HE2
          clear hV HV Hhyp hr hi
          go_wp2_with (first
            | (go_at_call 62; refine HE.out.mono ?_; clear HE; rintro e w6 ⟨rfl, hb6⟩)
            | (go_at_call 40; refine (HI.out w6 hb6).mono ?_; clear HI; rintro e w7 ⟨v7, rfl, hW7, hb7⟩; have hb57 := hb6.trans (hb7.mono hb6.size))
            | (go_at_call 62; refine (HE2.out w7 hb57 v7 _ hW7).mono ?_; clear HE2; rintro e w8 ⟨rfl, hb8⟩; have hb58 := hb57.trans (hb8.mono hb57.size)))
          ((try simp only [Exit.inBlock, Exit.then]); refine bodyPost_ret (results_tmp5 rfl _ _ _) rfl ?_)
          exact ⟨by rw [HV2.out]; rfl, Hb05.out.trans (hb58.mono Hb05.out.size)⟩

end Go.Proofs.Ytojjpbeaifiejaa

namespace Go.Proofs.Ytojjpbeaifiejaa
open Go.RowKit Go.Shelf

/-- A power, of any sign. -/
def powZ (l : List Nat) (n : Int) : List Nat := if n < 0 then pw (invL l) n.natAbs else pw l n.natAbs
theorem powZ_word {l : List Nat} (h : IsWord l) (n : Int) : IsWord (powZ l n) := by
  unfold powZ
  split
  · exact pw_word (invL_word h) _
  · exact pw_word h _
theorem powZ_length (l : List Nat) (n : Int) : (powZ l n).length = n.natAbs * l.length := by
  unfold powZ
  split
  · rw [pw_length, invL_length]
  · rw [pw_length]

theorem strCells_nums (s : ByteArray) : Lib.strCells s = nums .u8 (lettersOf s) := by
  unfold Lib.strCells nums lettersOf
  rw [List.map_map]
  rfl
set_option maxRecDepth 100000 in
set_option maxHeartbeats 1000000 in
theorem rpower_any (s : ByteArray) (n : Int) (w : World) (hword : IsWord (lettersOf s)) (hsz : s.size ≤ 30000) (hn : -30000 ≤ n ∧ n ≤ 30000) :
    Calls Try.prog 31 #[.string s, .int .i64 n] w fun e w' => e = .returned (.string (strL (powZ (lettersOf s) n))) ∧ Below w.heap.size w w' := by
  obtain ⟨i0, hi, hz0, hz1, hz2⟩ := info_parts info_u8
  have HI := Lib.hid (fun W => rinverse_any s W hword (by omega))
  have hll : (lettersOf s).length = s.size := lettersOf_length s
  have hli : lettersOf (strL (invL (lettersOf s))) = invL (lettersOf s) := letters_strL (invL_word hword).lt256
  have hsi : (strL (invL (lettersOf s))).size = s.size := by rw [strL_size, invL_length, hll]
  have Hli := Lib.hid hli
  clear hli
  generalize strL (invL (lettersOf s)) = si at *
  go_enter Try.func31, Try.ntmps31
  go_upto_if 8 with (fail)
  go_cut [0, 1] (fun tv nv wx => ∃ (t : ByteArray) (k : Nat), tv = .string t ∧ nv = .int .i64 k ∧ t.size = s.size ∧ k ≤ 30000 ∧ powZ (lettersOf s) n = pw (lettersOf t) k ∧ Below w.heap.size w wx)
  case first =>
    by_cases h0 : n < 0
    · have hneg : IntKind.i64.wrap (-n) = -n := IntWalk.i64_in _ (by omega)
      obtain ⟨k, hk⟩ : ∃ k : Nat, -n = (k : Int) := ⟨n.natAbs, by omega⟩
      have hp : powZ (lettersOf s) n = pw (lettersOf si) k := by
        unfold powZ
        rw [if_pos h0, Hli.out, show n.natAbs = k by omega]
      have Hp := Lib.hid hp
      clear hp
      go_wp2_with (go_at_call 19; refine (HI.out _).mono ?_; clear HI; rintro e w1 ⟨rfl, hb1⟩)
      go_meet
      exact ⟨si, k, rfl, rfl, hsi, by omega, Hp.out, hb1⟩
    · obtain ⟨k, rfl⟩ : ∃ k : Nat, n = (k : Int) := ⟨n.natAbs, by omega⟩
      have hp : powZ (lettersOf s) (k : Int) = pw (lettersOf s) k := by
        unfold powZ
        rw [if_neg h0, Int.natAbs_natCast]
      have Hp := Lib.hid hp
      clear hp
      go_wp2_with fail
      go_meet
      exact ⟨s, k, rfl, rfl, rfl, by omega, Hp.out, Below.refl _ _⟩
  case rest =>
    obtain ⟨t, k, rfl, rfl, hts, hk, hpow, hb0⟩ := hcut
    have Hpow := Lib.hid hpow
    have Hb0 := Lib.hid hb0
    clear hpow hb0
    have hlt : (lettersOf t).length = t.size := lettersOf_length t
    have hcells := strCells_nums t
    have hprod : t.size * k ≤ 900000000 := Nat.le_trans (Nat.mul_le_mul (show t.size ≤ 30000 by omega) hk) (by decide)
    have hts2 : t.size ≤ 30000 := by omega
    clear hts
    have hmk := run_make (P := Try.prog) wc 23 5 i0 (.int .u8 0) Try.underlying23 hi hz0 .i64 .i64 0 ((t.size * k : Nat)) (by omega) (by omega) (by rw [hz2]; omega) (by omega)
    rw [hz1, Nat.mul_one, Int.toNat_natCast, show (0 : Int).toNat = 0 from rfl, show madeCells (Value.int .u8 0).cells (t.size * k) = cellsOf .u8 (List.replicate (t.size * k) 0) from cellsOf_made .u8 _] at hmk
    have hown0 := own_made wc 5 (cellsOf .u8 (List.replicate (t.size * k) 0)) (by simp [cellsOf, maxLen]; omega)
    rw [show (cellsOf .u8 (List.replicate (t.size * k) 0)).size = t.size * k by simp [cellsOf]] at hown0
    have hbel0 := below_new' wc (.cells (cellsOf .u8 (List.replicate (t.size * k) 0)) 5)
    have hmulw : wrap64 ((t.size : Int) * (k : Int)) = ((t.size * k : Nat) : Int) := by
      rw [← Int.natCast_mul]
      exact wrap64_in _ (by omega) (by omega)
    generalize hq : t.size * k = q at *
    have Hq := Lib.hid hq
    clear hq
    generalize cellsOf .u8 (List.replicate q 0) = Z at *
    go_wp2_with fail
    have hgw : wc.heap.size ≤ (wc.alloc (.cells Z 5)).heap.size := hbel0.size
    generalize wc.alloc (.cells Z 5) = W0 at *
    have Hwg := Lib.hid hgw
    clear hmk hmulw
    go_loopw [5, 6] (fun v iv wr => ∃ j : Nat, j ≤ k ∧ iv = .int .i64 j ∧ wr.ownsRow wc.heap.size 5 1 v (j * t.size) (nums .u8 (pw (lettersOf t) j)) ∧ Below wc.heap.size wc wr) (fun _ iv _ => k - (intOf iv).toNat)
    case atStart => exact ⟨0, Nat.zero_le _, rfl, by rw [Nat.zero_mul]; exact hown0, hbel0⟩
    case round =>
      obtain ⟨j, hj, rfl, hown, hbel⟩ := hrel
      by_cases hjk : j < k
      · have hjki : (j : Int) < (k : Int) := by omega
        have hgs : wc.heap.size ≤ wr.heap.size := hbel.size
        have hbig : j * t.size + t.size ≤ 900000000 := by
          have h1 : (j + 1) * t.size ≤ 900000000 := Nat.le_trans (Nat.mul_le_mul (show j + 1 ≤ 30000 by omega) (show t.size ≤ 30000 from hts2)) (by decide)
          rw [Nat.succ_mul] at h1
          exact h1
        have Hbel := Lib.hid hbel
        have Hnext : Hid (nums .u8 (pw (lettersOf t) j) ++ Lib.strCells t = nums .u8 (pw (lettersOf t) (j + 1))) := by
          show _ = _
          rw [hcells, nums_append, pw_snoc]
        have Hlen : Hid (j * t.size + t.size = (j + 1) * t.size) := by show _ = _; rw [Nat.succ_mul]
        clear hbel hcells
        go_wp2_with (at_builtin; (refine Lib.wpList_append_own_string _ rfl _ _ 23 9 rfl wc.heap.size 5 i0 Try.underlying23 Try.underlying9 hi hz0 hz1 hz2 _ (j * t.size) (nums .u8 (pw (lettersOf t) j)) rfl hown t rfl (by unfold maxLen; omega) (by omega) hgs ?_))
        intro v2 w2 hown2 hgrow2 _
        have hbel2 : Below wc.heap.size wc w2 := Hbel.out.trans ((own_below0 hown hgs hgrow2).mono (Nat.le_refl _))
        go_wp2_with fail
        go_roundw
        case rel => exact ⟨j + 1, by omega, by go_num, by rw [← Hnext.out, ← Hlen.out]; exact hown2, hbel2⟩
        case measure => simp [intOf]; omega
      · obtain rfl : j = k := by omega
        have hlen2 : (pw (lettersOf t) j).length = j * t.size := by rw [pw_length, hlt]
        rw [← hlen2] at hown
        have hconv := own_string (t := 23) Try.underlying23 hown
        have Hbel := Lib.hid hbel
        clear hown hbel hcells
        go_wp2_with fail
        go_ret
        exact ⟨by rw [Hpow.out]; rfl, Hb0.out.trans (Hbel.out.mono Hb0.out.size)⟩

end Go.Proofs.Ytojjpbeaifiejaa

namespace Go.Proofs.Ytojjpbeaifiejaa

/-- What is right of a root R and two powers of it. -/
structure Powers (a b R : List Nat) (p q : Int) : Prop where
  ea : redL (powZ R p) = a
  eb : redL (powZ R q) = b
  loop : R ≠ [] → Looped R ∧ rootL R = R ∧ powL R = 1

theorem powZ_nat (l : List Nat) (k : Nat) : powZ l (k : Int) = pw l k := by
  unfold powZ
  rw [if_neg (by omega), Int.natAbs_natCast]
theorem powZ_zero (l : List Nat) : powZ l 0 = [] := powZ_nat l 0
theorem powZ_neg (l : List Nat) {k : Nat} (h : 0 < k) : powZ l (-(k : Int)) = pw (invL l) k := by
  unfold powZ
  rw [if_pos (by omega), Int.natAbs_neg, Int.natAbs_natCast]
theorem strL_nil : strL [] = ⟨#[]⟩ := rfl
theorem red_nil : redL [] = [] := rfl

/-- What Commute returns of two reduced words. -/
theorem com_facts {a b : List Nat} (wa : IsWord a) (ra : redL a = a) (wb : IsWord b) (rb : redL b = b) :
    ∃ (R : List Nat) (p q : Int) (ok : Bool), comV a b = (strL R, p, q, ok) ∧ IsWord R ∧ redL R = R ∧ R.length ≤ 3 * (a.length + b.length) ∧ p.natAbs ≤ a.length ∧ q.natAbs ≤ b.length ∧
      (ok = true ↔ redL (a ++ b) = redL (b ++ a)) ∧ (ok = true → Powers a b R p q) := by
  have hla := root_len a
  have hlb := root_len b
  have hpa := pow_le a
  have hpb := pow_le b
  unfold comV
  by_cases ha : a = []
  · rw [if_pos ha]
    subst ha
    have hc : redL ([] ++ b) = redL (b ++ []) := by rw [List.nil_append, List.append_nil]
    by_cases hb : b = []
    · subst hb
      rw [root_nil, pow_nil]
      exact ⟨[], 0, 0, true, rfl, wa, rfl, Nat.zero_le _, Nat.zero_le _, Nat.zero_le _, ⟨fun _ => rfl, fun _ => rfl⟩, fun _ => ⟨rfl, rfl, fun h => absurd rfl h⟩⟩
    · obtain ⟨h1, h2, h3, h4, h5, h6, h7, h8⟩ := root_pow wb rb hb
      refine ⟨rootL b, 0, powL b, true, rfl, h2, h3, by omega, by simp, by rw [Int.natAbs_natCast]; exact hpb, ⟨fun _ => hc, fun _ => rfl⟩, fun _ => ⟨by rw [powZ_zero]; rfl, by rw [powZ_nat]; exact Eq.trans h5 rb, fun hne => ?_⟩⟩
      exact ⟨(root_pow h2 h3 hne).1, h7, h8⟩
  · rw [if_neg ha]
    obtain ⟨h1, h2, h3, h4, h5, h6, h7, h8⟩ := root_pow wa ra ha
    have hloop : rootL a ≠ [] → Looped (rootL a) ∧ rootL (rootL a) = rootL a ∧ powL (rootL a) = 1 := fun hne => ⟨(root_pow h2 h3 hne).1, h7, h8⟩
    have hea : redL (powZ (rootL a) (powL a : Int)) = a := by rw [powZ_nat]; exact Eq.trans h5 ra
    have hla2 : (powL a : Int).natAbs ≤ a.length := by rw [Int.natAbs_natCast]; exact hpa
    by_cases hb : b = []
    · rw [if_pos (Or.inl hb)]
      subst hb
      have hc : redL (a ++ []) = redL ([] ++ a) := by rw [List.nil_append, List.append_nil]
      refine ⟨rootL a, powL a, powL [], true, rfl, h2, h3, by omega, hla2, by rw [pow_nil]; exact Nat.le_refl _, ⟨fun _ => hc, fun _ => rfl⟩, fun _ => ⟨hea, by rw [pow_nil]; rfl, hloop⟩⟩
    · have hiff := commute_iff wa ra ha wb rb hb
      obtain ⟨_, g2, g3, g4, g5, _⟩ := root_pow wb rb hb
      by_cases hr : rootL a = rootL b
      · rw [if_pos (Or.inr hr)]
        refine ⟨rootL a, powL a, powL b, true, rfl, h2, h3, by omega, hla2, by rw [Int.natAbs_natCast]; exact hpb, ⟨fun _ => hiff.2 (Or.inl hr.symm), fun _ => rfl⟩, fun _ => ⟨hea, ?_, hloop⟩⟩
        rw [powZ_nat, hr]
        exact Eq.trans g5 rb
      · rw [if_neg (fun h => h.elim hb hr)]
        by_cases hi : rootL a = invL (rootL b)
        · rw [if_pos hi]
          have hib : rootL b = invL (rootL a) := by rw [hi, invL_invL g2]
          refine ⟨rootL a, powL a, -(powL b : Int), true, rfl, h2, h3, by omega, hla2, by rw [Int.natAbs_neg, Int.natAbs_natCast]; exact hpb, ⟨fun _ => hiff.2 (Or.inr hib), fun _ => rfl⟩, fun _ => ⟨hea, ?_, hloop⟩⟩
          rw [powZ_neg _ g4, ← hib]
          exact Eq.trans g5 rb
        · rw [if_neg hi]
          refine ⟨[], 0, 0, false, rfl, IsWord.nil, rfl, Nat.zero_le _, Nat.zero_le _, Nat.zero_le _, ⟨(fun h => by cases h), fun h => ?_⟩, (fun h => by cases h)⟩
          rcases hiff.1 h with e | e
          · exact absurd e.symm hr
          · exact absurd (by rw [e, invL_invL h2]) hi

/-- A commutator falls if one of its words does. -/
theorem comm_falls {S : Nat → Bool} {u v : List Nat} (wu : IsWord u) (wv : IsWord v) (h : fallsL S (redL u) = true ∨ fallsL S (redL v) = true) : fallsL S (redL (u ++ (v ++ (invL u ++ invL v)))) = true := by
  have iu := invL_word wu
  have iv := invL_word wv
  rw [falls_eq (wu.append (wv.append (iu.append iv))), decide_eq_true_eq]
  rw [falls_eq wu, falls_eq wv, decide_eq_true_eq, decide_eq_true_eq] at h
  rw [List.filter_append, List.filter_append, List.filter_append, filter_invL (keep S) (fun c h => keep_inv S c h) wu, filter_invL (keep S) (fun c h => keep_inv S c h) wv]
  have wf := wu.filter (keep S)
  have wg := wv.filter (keep S)
  generalize u.filter (keep S) = f at *
  generalize v.filter (keep S) = g at *
  have jf := invL_word wf
  have jg := invL_word wg
  have key : Eqv (f ++ (g ++ (invL f ++ invL g))) [] := by
    rcases h with h | h
    · have e1 : Eqv f [] := h
      have e2 : Eqv (invL f) [] := red_nil_inv wf h
      have s1 : Eqv (f ++ (g ++ (invL f ++ invL g))) ([] ++ (g ++ ([] ++ invL g))) :=
        Eqv.append wf IsWord.nil (wg.append (jf.append jg)) (wg.append (IsWord.nil.append jg)) e1 (Eqv.left wg (jf.append jg) (IsWord.nil.append jg) (Eqv.right jf IsWord.nil jg e2))
      exact s1.trans (eqv_inv_right wg)
    · have e1 : Eqv g [] := h
      have e2 : Eqv (invL g) [] := red_nil_inv wg h
      have s1 : Eqv (f ++ (g ++ (invL f ++ invL g))) (f ++ ([] ++ (invL f ++ []))) :=
        Eqv.left wf (wg.append (jf.append jg)) (IsWord.nil.append (jf.append IsWord.nil)) (Eqv.append wg IsWord.nil (jf.append jg) (jf.append IsWord.nil) e1 (Eqv.left jf jg IsWord.nil e2))
      refine s1.trans ?_
      rw [List.nil_append, List.append_nil]
      exact eqv_inv_right wf
  exact key
end Go.Proofs.Ytojjpbeaifiejaa

namespace Go.Proofs.Ytojjpbeaifiejaa
open Go.RowKit Go.Shelf

/-- The world's first cell holds a number: internal/bytealg's. -/
def Cell0 (m : Int) (W : World) : Prop := W.cell? ⟨0, 0, none⟩ = some (.int .i64 m) ∧ 0 < W.heap.size

/-- What the calls about two words return. S, T: the words; U, V: their inverses; R: their root; p, q: the powers; X, Y: R's powers. -/
structure ComC (m : Int) (S T U V R X Y : ByteArray) (p q : Int) (ok : Bool) : Prop where
  com : ∀ W, Cell0 m W → Calls Try.prog 29 #[.string S, .string T] W fun e w' => e = .returned (.tuple #[.string R, .int .i64 p, .int .i64 q, .bool ok, .int .i64 0]) ∧ Below W.heap.size W w'
  same : ∀ W, Calls Try.prog 37 #[.string (S ++ T), .string (T ++ S)] W fun e w' => e = .returned (.bool ok) ∧ Below W.heap.size W w'
  pow1 : ∀ W, Calls Try.prog 31 #[.string R, .int .i64 p] W fun e w' => e = .returned (.string X) ∧ Below W.heap.size W w'
  pow2 : ∀ W, Calls Try.prog 31 #[.string R, .int .i64 q] W fun e w' => e = .returned (.string Y) ∧ Below W.heap.size W w'
  same1 : ok = true → ∀ W, Calls Try.prog 37 #[.string S, .string X] W fun e w' => e = .returned (.bool true) ∧ Below W.heap.size W w'
  same2 : ok = true → ∀ W, Calls Try.prog 37 #[.string T, .string Y] W fun e w' => e = .returned (.bool true) ∧ Below W.heap.size W w'
  root : ok = true → R ≠ ⟨#[]⟩ → ∀ W, Cell0 m W → Calls Try.prog 13 #[.string R] W fun e w' => e = .returned (.tuple #[.string R, .int .i64 1, .int .i64 0]) ∧ Below W.heap.size W w'
  inv1 : ∀ W, Calls Try.prog 19 #[.string S] W fun e w' => e = .returned (.string U) ∧ Below W.heap.size W w'
  inv2 : ∀ W, Calls Try.prog 19 #[.string T] W fun e w' => e = .returned (.string V) ∧ Below W.heap.size W w'
  fall : ∀ z : Int, ∃ c d y : Bool, (c = true ∨ d = true → y = true) ∧
    (∀ W, Calls Try.prog 17 #[.string S, .string (strL (oneS 2 true z))] W fun e w' => e = .returned (.tuple #[.bool c, .int .i64 0]) ∧ Below W.heap.size W w') ∧
    (∀ W, Calls Try.prog 17 #[.string T, .string (strL (oneS 2 true z))] W fun e w' => e = .returned (.tuple #[.bool d, .int .i64 0]) ∧ Below W.heap.size W w') ∧
    (∀ W, Calls Try.prog 17 #[.string (S ++ (T ++ (U ++ V))), .string (strL (oneS 2 true z))] W fun e w' => e = .returned (.tuple #[.bool y, .int .i64 0]) ∧ Below W.heap.size W w')
  sizes : S.size ≤ 300 ∧ T.size ≤ 300 ∧ U.size ≤ 300 ∧ V.size ≤ 300

theorem com_calls {la lb : List Nat} (m : Int) (wa : IsWord la) (wb : IsWord lb) (ha : la.length ≤ 300) (hb : lb.length ≤ 300) : ∃ R X Y p q ok, ComC m (strL la) (strL lb) (strL (invL la)) (strL (invL lb)) R X Y p q ok := by
  have ra := red_word wa
  have rb := red_word wb
  have l1 := redL_length la
  have l2 := redL_length lb
  have ea := letters_strL wa.lt256
  have eb := letters_strL wb.lt256
  have za : (strL la).size ≤ 300 := by rw [strL_size]; exact ha
  have zb : (strL lb).size ≤ 300 := by rw [strL_size]; exact hb
  have ca : checkN (lettersOf (strL la)) = 0 := by rw [ea]; exact checkN_word wa (by omega)
  have cb : checkN (lettersOf (strL lb)) = 0 := by rw [eb]; exact checkN_word wb (by omega)
  obtain ⟨R, p, q, ok, hV, wR, rR, lR, lp, lq, hok, hP⟩ := com_facts ra (red_red wa) rb (red_red wb)
  have eR := letters_strL wR.lt256
  have zR : (strL R).size ≤ 1800 := by rw [strL_size]; omega
  have wX := powZ_word wR p
  have wY := powZ_word wR q
  have hx : (powZ R p).length ≤ 300 * 1800 := by rw [powZ_length]; exact Nat.mul_le_mul (by omega) (by omega)
  have hy : (powZ R q).length ≤ 300 * 1800 := by rw [powZ_length]; exact Nat.mul_le_mul (by omega) (by omega)
  have eX := letters_strL wX.lt256
  have eY := letters_strL wY.lt256
  have wab := wa.append wb
  have wba := wb.append wa
  have hokd : decide (redL (la ++ lb) = redL (lb ++ la)) = ok := by
    rw [red_append wa wb, red_append wb wa] at hok
    cases ok with
    | true => exact decide_eq_true (hok.1 rfl)
    | false => exact decide_eq_false fun h => by cases hok.2 h
  have pz1 : -30000 ≤ p ∧ p ≤ 30000 := by omega
  have pz2 : -30000 ≤ q ∧ q ≤ 30000 := by omega
  refine ⟨strL R, strL (powZ R p), strL (powZ R q), p, q, ok, ⟨fun W hW => ?_, fun W => ?_, fun W => ?_, fun W => ?_, fun h W => ?_, fun h W => ?_, fun h hne W hW => ?_, fun W => ?_, fun W => ?_, fun z => ?_, ?_⟩⟩
  · have h := commute_any (strL la) (strL lb) m W (by omega) (by omega) ca cb hW.1 hW.2
    unfold RetCom at h
    rw [ea, eb, hV] at h
    exact h
  · have h := rsame_any (strL la ++ strL lb) (strL lb ++ strL la) W (by rw [strL_append, letters_strL wab.lt256]; exact wab) (by rw [strL_append, letters_strL wba.lt256]; exact wba) (by rw [ByteArray.size_append]; omega) (by rw [ByteArray.size_append]; omega)
    rwa [strL_append, strL_append, letters_strL wab.lt256, letters_strL wba.lt256, hokd, ← strL_append, ← strL_append] at h
  · have h := rpower_any (strL R) p W (by rw [eR]; exact wR) (by omega) pz1
    rwa [eR] at h
  · have h := rpower_any (strL R) q W (by rw [eR]; exact wR) (by omega) pz2
    rwa [eR] at h
  · have h2 := rsame_any (strL la) (strL (powZ R p)) W (by rw [ea]; exact wa) (by rw [eX]; exact wX) (by omega) (by rw [strL_size]; omega)
    rwa [ea, eX, decide_eq_true (hP h).ea.symm] at h2
  · have h2 := rsame_any (strL lb) (strL (powZ R q)) W (by rw [eb]; exact wb) (by rw [eY]; exact wY) (by omega) (by rw [strL_size]; omega)
    rwa [eb, eY, decide_eq_true (hP h).eb.symm] at h2
  · have hR : R ≠ [] := fun e => hne (by rw [e]; rfl)
    obtain ⟨g1, g2, g3⟩ := (hP h).loop hR
    have h2 := rootOf_any (strL R) m W (by omega) (by rw [eR]; exact checkN_word wR (by omega)) (by rw [eR, rR]; exact g1) hW.1 hW.2
    rwa [eR, rR, g2, g3] at h2
  · have h := rinverse_any (strL la) W (by rw [ea]; exact wa) (by omega)
    rwa [ea] at h
  · have h := rinverse_any (strL lb) W (by rw [eb]; exact wb) (by omega)
    rwa [eb] at h
  · have hr := rising_one (show 2 ≤ 26 by omega) true z
    have hp : lettersOf (strL (oneS 2 true z)) = oneS 2 true z := letters_strL (rising_word hr).lt256
    have hpz : (strL (oneS 2 true z)).size ≤ 26 := by rw [strL_size]; exact rising_size hr
    have wx : IsWord (la ++ (lb ++ (invL la ++ invL lb))) := wa.append (wb.append ((invL_word wa).append (invL_word wb)))
    have ex : strL la ++ (strL lb ++ (strL (invL la) ++ strL (invL lb))) = strL (la ++ (lb ++ (invL la ++ invL lb))) := by rw [strL_append, strL_append, strL_append]
    have lx : (la ++ (lb ++ (invL la ++ invL lb))).length ≤ 1200 := by simp only [List.length_append, invL_length]; omega
    have ex2 := letters_strL wx.lt256
    refine ⟨_, _, _, comm_falls (S := nailsL (oneS 2 true z)) wa wb, fun W => ?_, fun W => ?_, fun W => ?_⟩
    · have h := falls_any (strL la) (strL (oneS 2 true z)) W (by omega) (by omega) ca (by rw [hp]; exact hr)
      rwa [ea, hp] at h
    · have h := falls_any (strL lb) (strL (oneS 2 true z)) W (by omega) (by omega) cb (by rw [hp]; exact hr)
      rwa [eb, hp] at h
    · rw [ex]
      have h := falls_any (strL (la ++ (lb ++ (invL la ++ invL lb)))) (strL (oneS 2 true z)) W (by rw [strL_size]; omega) (by omega) (by rw [ex2]; exact checkN_word wx (by omega)) (by rw [hp]; exact hr)
      rwa [ex2, hp] at h
  · exact ⟨za, zb, by rw [strL_size, invL_length]; exact ha, by rw [strL_size, invL_length]; exact hb⟩
end Go.Proofs.Ytojjpbeaifiejaa
