/-
  The walk of the reference's Least.
  The walk of the reference's Sets.
-/
import Derived.Test.YtolppbilcmobbaaRefG
namespace Go.Proofs.Ytolppbilcmobbaa
open Go.RowKit Go.Shelf

theorem getD_memB {l : List ByteArray} {k : Nat} (h : k < l.length) : l.getD k ByteArray.empty ∈ l := by
  rw [List.getD_eq_getElem?_getD, List.getElem?_eq_getElem h]
  exact List.getElem_mem _
/-- Whether a string is the other one, or not within it. -/
def offR (x t : ByteArray) : Bool := decide (t = x) || !((lettersOf t).all fun c => hasL (lettersOf x) c)
def okR (ss : List ByteArray) (x : ByteArray) : Bool := ss.all (offR x)
def insAll (l : List ByteArray) : List ByteArray := l.foldl insL []
def leastR (ss : List ByteArray) : List ByteArray := insAll (ss.filter (okR ss))
theorem insAll_snoc (l : List ByteArray) (x : ByteArray) : insAll (l ++ [x]) = insL (insAll l) x := by unfold insAll; rw [List.foldl_append]; rfl
theorem insAll_len (l : List ByteArray) : (insAll l).length ≤ l.length := by
  have : ∀ (l out : List ByteArray), (l.foldl insL out).length ≤ out.length + l.length := by
    intro l
    induction l with
    | nil => intro out; exact Nat.le_refl _
    | cons x l ih =>
      intro out
      have h1 := ih (insL out x)
      have h2 := insL_len out x
      simp only [List.foldl_cons, List.length_cons]
      omega
  have h := this l []
  rw [List.length_nil, Nat.zero_add] at h
  exact h
theorem leastTo {ss : List ByteArray} {P : ByteArray → Bool} {i : Nat} (h : i < ss.length) : insAll ((ss.take (i + 1)).filter P) = if P (ss.getD i ByteArray.empty) = true then insL (insAll ((ss.take i).filter P)) (ss.getD i ByteArray.empty) else insAll ((ss.take i).filter P) := by
  rw [List.take_succ_eq_append_getElem h, List.filter_append, List.getD_eq_getElem?_getD, List.getElem?_eq_getElem h, Option.getD_some]
  by_cases g : P ss[i] = true
  · rw [if_pos g, List.filter_cons_of_pos g, List.filter_nil, insAll_snoc]
  · rw [if_neg g, List.filter_cons_of_neg g, List.filter_nil, List.append_nil]

set_option maxRecDepth 100000 in
set_option maxHeartbeats 2000000 in
theorem rleast_any (A : Option Addr) (n c : Nat) (ss : List ByteArray) (w : World) (hS : StrS w A n ss) (hn : n ≤ 2000) (hz : ∀ s ∈ ss, s.size ≤ 1000000000) :
    Calls Try.prog 52 #[.slice A n c] w (RetIns (leastR ss) w) := by
  have HS := Lib.hid hS
  have Hl := Lib.hid hS.1
  have Hz := Lib.hid hz
  obtain ⟨P, hP⟩ : ∃ P, P = okR ss := ⟨_, rfl⟩
  have HP : Hid (∀ x, P x = ss.all (offR x)) := fun x => by rw [hP]; rfl
  have Hend : Hid (leastR ss = insAll (ss.filter P)) := by show _ = _; rw [hP]; rfl
  generalize hg : w.heap.size = g at *
  have Hg := Lib.hid hg
  obtain ⟨L, hL⟩ : ∃ L, leastR ss = L := ⟨_, rfl⟩
  rw [hL] at Hend ⊢
  clear hS hg hL hz hP
  go_enter Try.func52, Try.ntmps52
  go_wp2_with fail
  go_loopw [3, 4] (fun v iv wr => ∃ (i : Nat) (Ao : Option Addr) (no co : Nat), i ≤ n ∧ iv = .int .i64 i ∧ v = .slice Ao no co ∧ no ≤ co ∧ no ≤ i ∧ StrS wr Ao no (insAll ((ss.take i).filter P)) ∧ Below g w wr) (fun _ iv _ => n - (intOf iv).toNat)
  case atStart => exact ⟨0, none, 0, 0, Nat.zero_le _, rfl, rfl, Nat.le_refl _, Nat.le_refl _, ⟨rfl, fun h => absurd h (by omega)⟩, Below.refl _ _⟩
  case round =>
    obtain ⟨i, Ao, no, co, hi, rfl, rfl, hoc, hoi, hout, hbel⟩ := hrel
    by_cases hlt : i < n
    · obtain ⟨b, off, rfl, hb, hcl⟩ := HS.out.2 (by omega)
      have Hcl : Hid (∀ W, Below g w W → ∀ j, j < n → W.cell? ⟨b, off + j, none⟩ = some (.string (ss.getD j ByteArray.empty))) := fun W hW j hj => (hW.cell (p := ⟨b, off + j, none⟩) (by rw [← Hg.out]; exact hb)).trans (hcl j hj)
      have Hst := Lib.hid (leastTo (ss := ss) (P := P) (i := i) (by have := Hl.out; omega))
      have hxm := getD_memB (l := ss) (k := i) (by have := Hl.out; omega)
      have hxz := Hz.out _ hxm
      have HPx := Lib.hid (HP.out (ss.getD i ByteArray.empty))
      have Hci := Lib.hid (fun W hW => Hcl.out W hW i hlt)
      generalize ss.getD i ByteArray.empty = x at *
      generalize insAll ((ss.take i).filter P) = out at *
      have Hout := Lib.hid hout
      have hol := hout.1
      have Hins := Lib.hid (fun (W : World) (h : StrS W Ao no out) => insert_any Ao no co out x W h (by omega) hoc)
      have hno2 : no ≤ 2000 := by omega
      clear hcl hxm hout
      go_wp2_with fail
      go_loopw [5, 6] (fun fv jv wx => ∃ j : Nat, j ≤ n ∧ jv = .int .i64 j ∧ fv = .bool ((ss.take j).all (offR x)) ∧ Below g w wx ∧ StrS wx Ao no out) (fun _ jv _ => n - (intOf jv).toNat)
      case atStart => exact ⟨0, Nat.zero_le _, rfl, rfl, hbel, Hout.out⟩
      case round =>
        obtain ⟨j, hjn, rfl, rfl, hbel2, hout2⟩ := hrel
        by_cases hltj : j < n
        · have Hs2 := Lib.hid (all_takeB (l := ss) (P := offR x) (k := j) (by have := Hl.out; omega))
          have htm := getD_memB (l := ss) (k := j) (by have := Hl.out; omega)
          have htz := Hz.out _ htm
          have hci := Hci.out wr hbel2
          have hcj := Hcl.out wr hbel2 j hltj
          generalize ss.getD j ByteArray.empty = t at *
          have Hcon := Lib.hid (fun W => rcontains_any x t W hxz htz)
          have Hoff : Hid (offR x t = (decide (t = x) || !((lettersOf t).all fun c => hasL (lettersOf x) c))) := rfl
          generalize ((lettersOf t).all fun c => hasL (lettersOf x) c) = q at *
          have heq : (t.toList == x.toList) = decide (t = x) := str_eq_iff
          generalize decide (t = x) = e at *
          generalize offR x t = o at *
          have Hbel2 := Lib.hid hbel2
          have Hout2 := Lib.hid hout2
          clear htm hbel2 hout2
          generalize (ss.take j).all (offR x) = a at *
          cases a
          · go_wp2_with fail
            go_quiet (fail)
            have Hbel3 : Hid (Below g w (wr.drewN nq)) := below_drewN Hbel2.out nq
            have Hout3 : Hid (StrS (wr.drewN nq) Ao no out) := Hout2.out
            go_wp2_with fail
            go_roundw
            case rel => exact ⟨j + 1, by omega, by go_num, by rw [Hs2.out, Bool.false_and], Hbel3.out, Hout3.out⟩
            case measure => simp [intOf]; omega
          · cases e
            · go_wp2_with fail
              go_quiet ((go_at_call 27; exact Calls.quiet_of_same (Hcon.out _)))
              have Hbel3 : Hid (Below g w (wr.drewN nq)) := below_drewN Hbel2.out nq
              have Hout3 : Hid (StrS (wr.drewN nq) Ao no out) := Hout2.out
              go_wp2_with fail
              go_roundw
              case rel => exact ⟨j + 1, by omega, by go_num, by rw [Hs2.out, Hoff.out, Bool.true_and, Bool.false_or], Hbel3.out, Hout3.out⟩
              case measure => simp [intOf]; omega
            · go_wp2_with fail
              go_quiet (fail)
              have Hbel3 : Hid (Below g w (wr.drewN nq)) := below_drewN Hbel2.out nq
              have Hout3 : Hid (StrS (wr.drewN nq) Ao no out) := Hout2.out
              go_wp2_with fail
              go_roundw
              case rel => exact ⟨j + 1, by omega, by go_num, by rw [Hs2.out, Hoff.out, Bool.true_and, Bool.true_or], Hbel3.out, Hout3.out⟩
              case measure => simp [intOf]; omega
        · obtain rfl : j = n := by omega
          rw [List.take_of_length_le (by have := Hl.out; omega), ← HPx.out]
          have hci := Hci.out wr hbel2
          have Hi2 := Lib.hid (Hins.out wr hout2)
          have Hbel2 := Lib.hid hbel2
          have Hout2 := Lib.hid hout2
          have hgs : g ≤ wr.heap.size := by have := hbel2.size; have := Hg.out; omega
          clear hbel2 hout2
          generalize P x = p at *
          cases p
          · go_wp2_with fail
            go_roundw
            case rel => exact ⟨i + 1, Ao, no, co, by omega, by go_num, rfl, hoc, by omega, by rw [Hst.out, if_neg (by decide)]; exact Hout2.out, Hbel2.out⟩
            case measure => simp [intOf]; omega
          · go_wp2_with (go_at_call 76; refine Hi2.out.mono ?_; clear Hi2; rintro e w2 ⟨A2, c2, rfl, hc2, hS2, hb2⟩)
            have hln := insL_len out x
            go_roundw
            case rel => exact ⟨i + 1, A2, _, c2, by omega, by go_num, rfl, hc2, by omega, by rw [Hst.out, if_pos trivial]; exact hS2, Hbel2.out.trans (hb2.mono hgs)⟩
            case measure => simp [intOf]; omega
    · obtain rfl : i = n := by omega
      rw [List.take_of_length_le (by have := Hl.out; omega), ← Hend.out] at hout
      have hlL := hout.1
      go_wp2_with fail
      go_ret
      exact ⟨Ao, co, by rw [hlL]; rfl, by omega, by rw [hlL]; exact hout, by rw [Hg.out]; exact hbel⟩

end Go.Proofs.Ytolppbilcmobbaa

namespace Go.Proofs.Ytolppbilcmobbaa
open Go.RowKit Go.Shelf

/-- The names of the sets, told by their bits, with which letters fall. -/
def fallAt (l : List Nat) (j : Nat) : Bool := decide (redL (stayL (selL (nameL (nailsL l)) j) l) = [])
def setAt (l : List Nat) (j : Nat) : ByteArray := strL (selL (nameL (nailsL l)) j)
def fallTo (l : List Nat) (j : Nat) : List ByteArray := ((List.range j).filter (fallAt l)).map (setAt l)
theorem fallTo_step (l : List Nat) (j : Nat) : fallTo l (j + 1) = fallTo l j ++ (if fallAt l j = true then [setAt l j] else []) := by
  unfold fallTo
  rw [List.range_succ, List.filter_append, List.map_append]
  congr 1
  by_cases g : fallAt l j = true
  · rw [if_pos g, List.filter_cons_of_pos g]; rfl
  · rw [if_neg g, List.filter_cons_of_neg g]; rfl
theorem fallTo_len (l : List Nat) (j : Nat) : (fallTo l j).length ≤ j := by
  unfold fallTo
  rw [List.length_map]
  have := List.length_filter_le (fallAt l) (List.range j)
  rwa [List.length_range] at this
/-- What the reference's Sets returns. -/
def setsR (l : List Nat) : List ByteArray := leastR (fallTo l (2 ^ (nameL (nailsL l)).length))
theorem setAt_size (l : List Nat) (j : Nat) : (setAt l j).size ≤ 26 := by
  unfold setAt
  rw [strL_size]
  exact Nat.le_trans (selL_len _ _) (nameL_length _)

set_option maxRecDepth 100000 in
set_option maxHeartbeats 2000000 in
theorem rsets_any (s : ByteArray) (w : World) (hword : IsWord (lettersOf s)) (hsz : s.size ≤ 1000000) (hfew : (nameL (nailsL (lettersOf s))).length ≤ 10) :
    Calls Try.prog 22 #[.string s] w (RetIns (setsR (lettersOf s)) w) := by
  obtain ⟨i0, hi, hz0, hz1, hz2⟩ := info_parts info_str
  have Hnails := Lib.hid (rnails_any s w.heap.size (w.alloc (.cells #[.string s] 9)) hword (by omega) ((Blk.new w 9 #[.string s]).cell 0))
  have hww := nameL_word (nailsL (lettersOf s))
  have Hsub : Hid (∀ (j : Nat) (W : World), j ≤ 1024 → Calls Try.prog 51 #[.string (strL (nameL (nailsL (lettersOf s)))), .int .i64 (j : Nat)] W fun e w' => e = .returned (.string (setAt (lettersOf s) j)) ∧ w' = W) := fun j W hj => subset_any _ j W hww.lt256 (nameL_length _) (by omega)
  have Hfall : Hid (∀ (j : Nat) (W : World), Calls Try.prog 20 #[.string s, .string (setAt (lettersOf s) j)] W fun e w' => e = .returned (.bool (fallAt (lettersOf s) j)) ∧ Below W.heap.size W w') := fun j W => by
    have hw2 : IsWord (selL (nameL (nailsL (lettersOf s))) j) := fun c hc => hww c (selL_sub _ _ _ hc)
    have h := rfalls_any s (setAt (lettersOf s) j) W hword hsz (by have := setAt_size (lettersOf s) j; omega)
    unfold setAt at h ⊢
    rw [letters_strL hw2.lt256] at h
    exact h
  have Hleast := Lib.hid (fun (A : Option Addr) (c : Nat) (W : World) (h : StrS W A (fallTo (lettersOf s) (2 ^ (nameL (nailsL (lettersOf s))).length)).length (fallTo (lettersOf s) (2 ^ (nameL (nailsL (lettersOf s))).length))) => rleast_any A _ c _ W h (Nat.le_trans (fallTo_len _ _) (Nat.le_trans (Nat.pow_le_pow_right (n := 2) (by omega) hfew) (by omega))) (fun x hx => by
    unfold fallTo at hx
    obtain ⟨j, _, rfl⟩ := List.mem_map.1 hx
    have := setAt_size (lettersOf s) j
    omega))
  obtain ⟨L, hL⟩ : ∃ L, setsR (lettersOf s) = L := ⟨_, rfl⟩
  have Hend : Hid (leastR (fallTo (lettersOf s) (2 ^ (nameL (nailsL (lettersOf s))).length)) = L) := hL
  rw [Hend.out] at Hleast
  rw [hL]
  have hlen : (strL (nameL (nailsL (lettersOf s)))).size = (nameL (nailsL (lettersOf s))).length := strL_size _
  have Hstep := Lib.hid (fallTo_step (lettersOf s))
  have Hlen := Lib.hid (fallTo_len (lettersOf s))
  have hz0' : fallTo (lettersOf s) 0 = [] := rfl
  generalize fallTo (lettersOf s) = F at *
  generalize fallAt (lettersOf s) = B at *
  generalize setAt (lettersOf s) = T at *
  generalize strL (nameL (nailsL (lettersOf s))) = ns at *
  generalize (nameL (nailsL (lettersOf s))).length = m at *
  have hpow : 2 ^ m ≤ 1024 := Nat.pow_le_pow_right (n := 2) (by omega) hfew
  obtain ⟨M, hM⟩ : ∃ M, 2 ^ m = M := ⟨_, rfl⟩
  have hwM : wrap64 ((2 : Int) ^ m) = (M : Int) := by
    rw [show (2 : Int) ^ m = (M : Int) by rw [← hM, Int.natCast_pow]; rfl]
    exact wrap64_in _ (by omega) (by omega)
  rw [hM] at hpow Hleast
  clear hM
  have hbel0 := below_new' w (.cells #[.string s] 9)
  clear hL hww Hend
  go_enter Try.func22, Try.ntmps22
  go_upto_region 4 with (go_at_call 24; refine Hnails.out.mono ?_; clear Hnails; rintro e w1 ⟨rfl, rfl⟩)
  have hsz1 : w.heap.size ≤ (w.alloc (.cells #[.string s] 9)).heap.size := hbel0.size
  generalize w.alloc (.cells #[.string s] 9) = W0 at *
  generalize hg : w.heap.size = g at *
  have Hg := Lib.hid hg
  clear hg
  go_loopw [4, 5] (fun v jv wr => ∃ j : Nat, j ≤ M ∧ jv = .int .i64 j ∧ wr.ownsRow g 9 1 v (F j).length ((F j).map Value.string) ∧ Below g w wr) (fun _ jv _ => M - (intOf jv).toNat)
  case atStart => exact ⟨0, Nat.zero_le _, rfl, by rw [hz0']; exact ⟨rfl, .inl ⟨rfl, rfl⟩⟩, hbel0⟩
  case round =>
    obtain ⟨j, hj, rfl, hown, hbel⟩ := hrel
    have hFl := Hlen.out j
    have hgs : g ≤ wr.heap.size := by have := hbel.size; have := Hg.out; omega
    by_cases hlt : j < M
    · have hlti : (j : Int) < (M : Int) := by omega
      have Hst := Lib.hid (Hstep.out j)
      have Hs := Lib.hid (fun W => Hsub.out j W (by omega))
      have Hf := Lib.hid (fun W => Hfall.out j W)
      generalize B j = b at *
      have Hbel := Lib.hid hbel
      obtain ⟨N, hN⟩ : ∃ N, (F j).length = N := ⟨_, rfl⟩
      rw [hN] at hown hFl
      have HN := Lib.hid hN
      obtain ⟨X, hX⟩ : ∃ X, (F j).map Value.string = X := ⟨_, rfl⟩
      rw [hX] at hown
      have HX := Lib.hid hX
      clear hbel hN hX
      cases b
      · go_wp2_with (first
          | (go_at_call 51; refine (Hs.out _).mono ?_; clear Hs; rintro e w2 ⟨rfl, rfl⟩)
          | (go_at_call 20; refine (Hf.out _).mono ?_; clear Hf; rintro e w3 ⟨rfl, hb3⟩; have hown3 := own_keep hown hb3))
        go_roundw
        case rel => exact ⟨j + 1, by omega, by go_num, by rw [Hst.out, if_neg (by decide), List.append_nil, HN.out, HX.out]; exact hown3, Hbel.out.trans (hb3.mono hgs)⟩
        case measure => simp [intOf]; omega
      · go_wp2_with (first
          | (go_at_call 51; refine (Hs.out _).mono ?_; clear Hs; rintro e w2 ⟨rfl, rfl⟩)
          | (go_at_call 20; refine (Hf.out _).mono ?_; clear Hf; rintro e w3 ⟨rfl, hb3⟩; have hown3 := own_keep hown hb3)
          | (at_builtin; refine wpList_append_lies _ rfl _ _ 29 rfl g 9 i0 (.string ⟨#[]⟩) 1 16 Try.underlying29 hi hz0 hz1 hz2 rfl (by decide) _ N X rfl (hown3.alloc _) ⟨w3.heap.size, 0, none⟩ 1 1 [.string (T j)] rfl rfl ?c1 (one_cell _ rfl) Nat.one_pos ?c4 ?c5 ?c6 (w3.heap.size + 1) (size_new'' _ _) ?_))
        case c1 => exact cell_one_new _ _ _
        case c4 => unfold maxLen; omega
        case c5 => omega
        case c6 => rw [World.size_alloc]; have := hb3.size; omega
        intro gr cr w4 hown4 hgrow4 hat4 hlt4
        have hbel4 : Below g w w4 := (Hbel.out.trans (hb3.mono hgs)).trans ((own_below hown3 (Nat.le_trans hgs hb3.size) hgrow4).mono (Nat.le_refl _))
        clear hgrow4 hat4 hlt4 hown3
        go_wp2_with fail
        go_roundw
        case rel => exact ⟨j + 1, by omega, by go_num, by rw [Hst.out, if_pos trivial, List.length_append, List.map_append, HN.out, HX.out]; exact hown4, hbel4⟩
        case measure => simp [intOf]; omega
    · obtain rfl : j = M := by omega
      obtain ⟨A2, c2, rfl, hS2⟩ := own_rows2 hown
      have hl2 := hS2.1
      have HL := Lib.hid (Hleast.out A2 c2 wr hS2)
      have Hbel := Lib.hid hbel
      clear hS2 hown hbel
      go_wp2_with (go_at_call 52; refine HL.out.mono ?_; clear HL; rintro e w2 ⟨A3, c3, rfl, hc3, hS3, hb3⟩)
      go_ret
      exact ⟨A3, c3, rfl, hc3, hS3, by rw [Hg.out]; exact Hbel.out.trans (hb3.mono hgs)⟩

end Go.Proofs.Ytolppbilcmobbaa
