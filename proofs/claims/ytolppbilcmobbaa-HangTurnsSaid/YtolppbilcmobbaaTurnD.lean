/-
  The walk of Turned, and of the reference's IsTurned.
-/
import Derived.Test.YtolppbilcmobbaaTurnC
import Derived.Test.YtolppbilcmobbaaTurnB
namespace Go.Proofs.Ytolppbilcmobbaa
open Go.RowKit Go.Shelf

/-- The word by which a word is turned into another one, whose loop begins i letters later. -/
def turnL (a b : List Nat) (i : Nat) : List Nat := redL (handleL b ++ (invL ((loopL a).take i) ++ invL (handleL a)))
/-- Whether one loop is the other one, begun later. -/
def SameLoop (a b : List Nat) : Prop := (loopL b).length = (loopL a).length ∧ ∃ i, i ≤ (loopL a).length ∧ rotL (loopL a) i = loopL b
/-- What Turned returns of two words. -/
def RetTurned (a b : List Nat) (w : World) (e : Ending) (w' : World) : Prop :=
  ∃ (X : ByteArray) (ok : Bool), e = .returned (.tuple #[.string X, .bool ok, .int .i64 0]) ∧ (ok = true → ∃ i, i ≤ (loopL a).length ∧ rotL (loopL a) i = loopL b ∧ X = strL (turnL a b i) ∧ (loopL b).length = (loopL a).length) ∧ (ok = false → X = ⟨#[]⟩ ∧ ¬ SameLoop a b) ∧ Below w.heap.size w w'

set_option maxRecDepth 100000 in
set_option maxHeartbeats 2000000 in
theorem turnedOf_any (u v : ByteArray) (m : Int) (w : World) (hu : u.size ≤ 1000000000) (hv : v.size ≤ 1000000000) (hcu : checkN (lettersOf u) = 0) (hcv : checkN (lettersOf v) = 0) (hm : w.cell? ⟨0, 0, none⟩ = some (.int .i64 m)) (hw0 : 0 < w.heap.size) :
    Calls Try.prog 32 #[.string u, .string v] w (RetTurned (redL (lettersOf u)) (redL (lettersOf v)) w) := by
  obtain ⟨hwu, hlu⟩ := checkN_zero hcu
  obtain ⟨hwv, hlv⟩ := checkN_zero hcv
  have hsu := lettersOf_length u
  have hsv := lettersOf_length v
  have Hchk := Lib.hid (checkAll_two u v w.heap.size (w.alloc (.cells #[.string u, .string v] 9)) hu hv (Blk.new _ _ _))
  rw [show chk2 (lettersOf u) (lettersOf v) = 0 by unfold chk2; rw [if_pos hcu, hcv]] at Hchk
  have hbx := below_new' w (.cells #[.string u, .string v] 9)
  have HR1 := Lib.hid (fun W => reduced_any u W hwu (by omega))
  have HR2 := Lib.hid (fun W => reduced_any v W hwv (by omega))
  have hwa := red_word hwu
  have hwb := red_word hwv
  have hla : (redL (lettersOf u)).length ≤ 30000 := Nat.le_trans (redL_length _) hlu
  have hlb : (redL (lettersOf v)).length ≤ 30000 := Nat.le_trans (redL_length _) hlv
  generalize redL (lettersOf u) = a at *
  generalize redL (lettersOf v) = b at *
  have Hm := Lib.hid hm
  have Hw0 := Lib.hid hw0
  have Hwa := Lib.hid hwa
  have Hwb := Lib.hid hwb
  have Hla := Lib.hid hla
  have Hlb := Lib.hid hlb
  clear hm hw0 hwa hwb hla hlb hcu hcv hwu hlu hwv hlv hsu hsv
  go_enter Try.func32, Try.ntmps32
  go_upto_region 4 with (go_at_call 61; refine Hchk.out.mono ?_; clear Hchk; rintro e w1 ⟨rfl, hb1⟩)
  have Hb01 := Lib.hid (hbx.trans (hb1.mono hbx.size))
  clear hbx hb1
  go_upto_region 5 with (first
    | (go_at_call 39; refine (HR1.out _).mono ?_; clear HR1; rintro e w2 ⟨v2, rfl, hW2, hb2⟩; have Hs := Lib.hid (split_gen v2 a _ w2 hW2 Hwa.out (by have := Hla.out; omega)))
    | (go_at_call 63; refine Hs.out.mono ?_; clear Hs; rintro e w3 ⟨A1, c1, A2, c2, rfl, hS1, hS2, hc1, hc2, hd3⟩))
  have Hb03 := Lib.hid (Hb01.out.trans ((hb2.trans (hd3.below.mono hb2.size)).mono Hb01.out.size))
  have HS1 := Lib.hid hS1
  have HS2 := Lib.hid hS2
  have Hc2 := Lib.hid hc2
  clear hS1 hS2 hc1 hc2 hb2 hd3 hW2 Hb01
  go_upto_region 6 with (first
    | (go_at_call 39; refine (HR2.out _).mono ?_; clear HR2; rintro e w4 ⟨v4, rfl, hW4, hb4⟩; have Hs := Lib.hid (split_gen v4 b _ w4 hW4 Hwb.out (by have := Hlb.out; omega)))
    | (go_at_call 63; refine Hs.out.mono ?_; clear Hs; rintro e w5 ⟨B1, d1, B2, d2, rfl, hT1, hT2, hd1, hd2, hd5⟩))
  have hb35 := hb4.trans (hd5.below.mono hb4.size)
  have Hb05 := Lib.hid (Hb03.out.trans (hb35.mono Hb03.out.size))
  have HS1' := Lib.hid (HS1.out.below hb35)
  have HS2' := Lib.hid (HS2.out.below hb35)
  have HT1 := Lib.hid hT1
  have HT2 := Lib.hid hT2
  clear hT1 hT2 hd1 hd2 hb4 hd5 hb35 hW4 Hb03 HS1 HS2
  have hrot := rotation_gen A2 B2 (a.length - 2 * coreK a) (b.length - 2 * coreK b) c2 d2 (loopL a) (loopL b) m w5 HS2'.out HT2.out (loop_word Hwa.out) (loop_word Hwb.out) (by have := Hla.out; omega) ((Hb05.out.cell (p := ⟨0, 0, none⟩) Hw0.out).trans Hm.out) (Nat.lt_of_lt_of_le Hw0.out Hb05.out.size)
  have Hrot := Lib.hid hrot
  clear hrot
  go_upto_region 7 with (go_at_call 64; refine Hrot.out.mono ?_; clear Hrot; rintro e w6 ⟨at6, ok, rfl, hyes, hno, hb6⟩)
  have Hyes := Lib.hid hyes
  have Hno := Lib.hid hno
  have Hb06 := Lib.hid (Hb05.out.trans (hb6.mono Hb05.out.size))
  have HS1'' := Lib.hid (HS1'.out.below hb6)
  have HS2'' := Lib.hid (HS2'.out.below hb6)
  have HT1'' := Lib.hid (HT1.out.below hb6)
  clear hyes hno hb6 HS1' HS2' HT1 HT2 Hb05
  cases ok
  · go_wp2_with fail
    go_ret3
    exact ⟨_, false, rfl, (fun h => by cases h), fun _ => ⟨rfl, fun h => Hno.out trivial h⟩, Hb06.out⟩
  · obtain ⟨hlen, hat, hrot⟩ := Hyes.out rfl
    have Hlen := Lib.hid hlen
    have Hat := Lib.hid hat
    have Hrt := Lib.hid hrot
    clear hlen hrot Hyes Hno
    have hll := loopL_length a
    have hatn : at6 ≤ a.length - 2 * coreK a := by omega
    have hatc : at6 ≤ c2 := Nat.le_trans hatn Hc2.out
    have hati : (at6 : Int) ≤ (c2 : Int) := by omega
    have HI1 := Lib.hid (inverse_any A2 at6 c2 ((loopL a).take at6) w6 (HS2''.out.take hatn) ((loop_word Hwa.out).take _) (by have := Hla.out; omega))
    have HI2 := Lib.hid (fun W (hW : Below w6.heap.size w6 W) => inverse_any A1 (coreK a) c1 (a.take (coreK a)) W (HS1''.out.below hW) (Hwa.out.take _) (by have := coreK_le a; have := Hla.out; omega))
    clear hat hll
    have hlI1 : (invL ((loopL a).take at6)).length ≤ 1000000 := by rw [invL_length, List.length_take]; have := Hla.out; have := Hat.out; omega
    have hlI2 : (invL (a.take (coreK a))).length ≤ 1000000 := by rw [invL_length, List.length_take]; have := Hla.out; omega
    have hlB : (b.take (coreK b)).length = coreK b := by rw [List.length_take]; have := coreK_le b; omega
    have hkb : coreK b ≤ 30000 := by have := coreK_le b; have := Hlb.out; omega
    have wI1 := invL_word ((loop_word Hwa.out).take at6)
    have wI2 := invL_word (Hwa.out.take (coreK a))
    have wB := Hwb.out.take (coreK b)
    have Hres : Hid (turnL a b at6 = redL ([b.take (coreK b), invL ((loopL a).take at6), invL (a.take (coreK a))] : List (List Nat)).flatten) := by
      show _ = _
      unfold turnL handleL
      simp
    generalize invL ((loopL a).take at6) = I1 at *
    generalize invL (a.take (coreK a)) = I2 at *
    generalize hBt : b.take (coreK b) = Bt at *
    have HBt := Lib.hid hBt
    have HlB := Lib.hid hlB
    have Hwords : Hid (∀ l ∈ ([Bt, I1, I2] : List (List Nat)), IsWord l) := by
      show ∀ _, _
      intro l hl
      simp only [List.mem_cons, List.not_mem_nil, or_false] at hl
      rcases hl with rfl | rfl | rfl
      · exact wB
      · exact wI1
      · exact wI2
    have Hflat : Hid (([Bt, I1, I2] : List (List Nat)).flatten.length ≤ 100000000) := by
      show _ ≤ _
      simp only [List.flatten_cons, List.flatten_nil, List.append_nil, List.length_append]
      omega
    have HlI1 := Lib.hid hlI1
    have HlI2 := Lib.hid hlI2
    clear hBt hlB wI1 wI2 wB hkb hlI1 hlI2
    go_wp2_with (first
      | (go_at_call 40; refine HI1.out.mono ?_; clear HI1; rintro e w7 ⟨v7, rfl, hW7, hb7⟩; obtain ⟨A7, c7, rfl, hS7, _⟩ := wire_sl' hW7 (Nat.le_trans HlI1.out (by decide)))
      | (go_at_call 40; refine (HI2.out w7 hb7).mono ?_; clear HI2; rintro e w8 ⟨v8, rfl, hW8, hb8⟩; obtain ⟨A8, c8, rfl, hS8, _⟩ := wire_sl' hW8 (Nat.le_trans HlI2.out (by decide))))
    have hb68 := hb7.trans (hb8.mono hb7.size)
    have hbz := below_new' w8 (.cells #[.slice B1 (coreK b) d1, .slice A7 I1.length c7, .slice A8 I2.length c8] 66)
    have hblk := Blk.new w8 66 #[.slice B1 (coreK b) d1, .slice A7 I1.length c7, .slice A8 I2.length c8]
    have hT8 := (HT1''.out.below hb68).below hbz
    have hS78 := (hS7.below hb8).below hbz
    have hS88 := hS8.below hbz
    have hparts : Parts (w8.alloc (.cells #[.slice B1 (coreK b) d1, .slice A7 I1.length c7, .slice A8 I2.length c8] 66)) w8.heap.size 0 [Bt, I1, I2] :=
      parts_cons hblk.lt ((hblk.cell 0).trans (by rw [HlB.out]; rfl)) (by rw [HlB.out]; exact hT8) (parts_cons hblk.lt ((hblk.cell 1).trans rfl) hS78 (parts_cons hblk.lt ((hblk.cell 2).trans rfl) hS88 (parts_nil _ _ _)))
    refine (joined_any w8.heap.size 0 3 3 [Bt, I1, I2] _ rfl hparts Hwords.out Hflat.out (by omega)).mono ?_
    rintro e w9 ⟨v9, rfl, hW9, hb9⟩
    have hconv := wire_string hW9
    have hb69 := hb68.trans ((hbz.trans (hb9.mono hbz.size)).mono hb68.size)
    clear hparts hT8 hS78 hS88 hblk hbz hb7 hb8 hb9 hS7 hS8 hW7 hW8
    go_wp2_with fail
    go_ret3
    exact ⟨_, true, rfl, fun _ => ⟨at6, Hat.out, Hrt.out, by rw [Hres.out]; simp, Hlen.out⟩, (fun h => by cases h), Hb06.out.trans (hb69.mono Hb06.out.size)⟩

set_option maxRecDepth 100000 in
set_option maxHeartbeats 1000000 in
theorem turned_bad (u v : ByteArray) (w : World) (hu : u.size ≤ 1000000000) (hv : v.size ≤ 1000000000) (hc : chk2 (lettersOf u) (lettersOf v) ≠ 0) :
    Calls Try.prog 32 #[.string u, .string v] w fun e w' => e = .returned (.tuple #[.string ⟨#[]⟩, .bool false, .int .i64 (chk2 (lettersOf u) (lettersOf v))]) ∧ Below w.heap.size w w' := by
  have Hchk := Lib.hid (checkAll_two u v w.heap.size (w.alloc (.cells #[.string u, .string v] 9)) hu hv (Blk.new _ _ _))
  have hbx := below_new' w (.cells #[.string u, .string v] 9)
  obtain ⟨z, hz⟩ : ∃ z : Int, z = (chk2 (lettersOf u) (lettersOf v) : Nat) := ⟨_, rfl⟩
  have hz0 : ¬ z = 0 := by omega
  have hzb : (z == 0) = false := by simpa using hz0
  rw [← hz] at Hchk ⊢
  clear hz hc
  go_enter Try.func32, Try.ntmps32
  go_wp2_with (go_at_call 61; refine Hchk.out.mono ?_; clear Hchk; rintro e w1 ⟨rfl, hb1⟩)
  go_ret3
  exact ⟨rfl, hbx.trans (hb1.mono hbx.size)⟩

set_option maxRecDepth 100000 in
theorem risturned_any (lu lv lx : List Nat) (w : World) (hu : IsWord lu) (hv : IsWord lv) (hx : IsWord lx) (h1 : lu.length ≤ 300000) (h2 : lv.length ≤ 300000) (h3 : lx.length ≤ 300000) :
    Calls Try.prog 34 #[.string (strL lu), .string (strL lv), .string (strL lx)] w fun e w' => e = .returned (.bool (decide (redL (lx ++ (lu ++ invL lx)) = redL lv))) ∧ Below w.heap.size w w' := by
  have HI : Hid (∀ W, Calls Try.prog 19 #[.string (strL lx)] W fun e w' => e = .returned (.string (strL (invL lx))) ∧ Below W.heap.size W w') := fun W => by
    have h := rinverse_any (strL lx) W (by rw [letters_strL hx.lt256]; exact hx) (by rw [strL_size]; omega)
    rwa [letters_strL hx.lt256] at h
  have wi := invL_word hx
  have li : (invL lx).length = lx.length := invL_length _
  have HS : Hid (∀ W, Calls Try.prog 37 #[.string (strL (lx ++ (lu ++ invL lx))), .string (strL lv)] W fun e w' => e = .returned (.bool (decide (redL (lx ++ (lu ++ invL lx)) = redL lv))) ∧ Below W.heap.size W w') := fun W => by
    have ww : IsWord (lx ++ (lu ++ invL lx)) := hx.append (hu.append wi)
    have h := rsame_any (strL (lx ++ (lu ++ invL lx))) (strL lv) W (by rw [letters_strL ww.lt256]; exact ww) (by rw [letters_strL hv.lt256]; exact hv) (by rw [strL_size, List.length_append, List.length_append]; omega) (by rw [strL_size]; omega)
    rwa [letters_strL ww.lt256, letters_strL hv.lt256] at h
  have hc1 := strL_append lx lu
  have hc2 := strL_append (lx ++ lu) (invL lx)
  rw [List.append_assoc] at hc2
  have z1 : (strL lx).size ≤ 300000 := by rw [strL_size]; exact h3
  have z2 : (strL lu).size ≤ 300000 := by rw [strL_size]; exact h1
  have z3 : (strL (lx ++ lu)).size ≤ 600000 := by rw [strL_size, List.length_append]; omega
  have z4 : (strL (invL lx)).size ≤ 300000 := by rw [strL_size, li]; exact h3
  generalize decide (redL (lx ++ (lu ++ invL lx)) = redL lv) = d at *
  generalize strL (lx ++ (lu ++ invL lx)) = S4 at *
  generalize strL (lx ++ lu) = S3 at *
  generalize strL (invL lx) = S2 at *
  generalize strL lx = S1 at *
  generalize strL lu = S0 at *
  generalize strL lv = SV at *
  go_enter Try.func34, Try.ntmps34
  go_wp2_with (first
    | (go_at_call 19; refine (HI.out _).mono ?_; clear HI; rintro e w2 ⟨rfl, hb2⟩)
    | (go_at_call 37; refine (HS.out _).mono ?_; clear HS; rintro e w3 ⟨rfl, hb3⟩))
  go_ret
  exact ⟨rfl, hb2.trans (hb3.mono hb2.size)⟩

end Go.Proofs.Ytolppbilcmobbaa
