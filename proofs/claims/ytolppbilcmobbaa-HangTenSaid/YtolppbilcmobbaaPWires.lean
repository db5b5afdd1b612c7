/-
  The walk of HangWires.
-/
import Derived.Test.YtolppbilcmobbaaWiresM
import Derived.Test.YtolppbilcmobbaaLawSets
import Derived.Test.YtolppbilcmobbaaAwake
namespace Go.Proofs.Ytolppbilcmobbaa
open Go.RowKit Go.Shelf

/-- Letters of few nails. -/
def Few (l : List Nat) : Prop := ∀ c ∈ l, Lt c ∧ nailN c < 4
theorem textC_few (c : Nat) : Lt (textC 4 c) ∧ nailN (textC 4 c) < 4 := by
  have := Nat.mod_lt c (show 0 < 2 * 4 by omega)
  refine ⟨textC_lt (by omega) (by omega), ?_⟩
  unfold textC nailN
  split <;> split <;> omega
theorem textL_few (l : List Nat) : Few (textL 4 l) := by
  intro c hc
  obtain ⟨x, _, rfl⟩ := List.mem_map.1 hc
  exact textC_few x
theorem Few.word {l : List Nat} (h : Few l) : IsWord l := fun c hc => (h c hc).1
theorem Few.append {l m : List Nat} (h : Few l) (g : Few m) : Few (l ++ m) := fun c hc => (List.mem_append.1 hc).elim (h c) (g c)
theorem Few.inv {l : List Nat} (h : Few l) : Few (invL l) := by
  intro c hc
  unfold invL at hc
  obtain ⟨d, hd, rfl⟩ := List.mem_map.1 (List.mem_reverse.1 hc)
  exact ⟨(h d hd).1.inv, by rw [nail_inv (h d hd).1]; exact (h d hd).2⟩
theorem few_nails {l : List Nat} (h : Few l) : (nailsIn (nailsL l)).length ≤ 4 := by
  have hsub : ∀ k ∈ nailsIn (nailsL l), k ∈ List.range 4 := fun k hk => by
    obtain ⟨c, hc, e⟩ := nails_of (mem_nailsIn.1 hk).2
    rw [List.mem_range, ← e]
    exact (h c hc).2
  have := List.Nodup.length_le_of_subset (nailsIn_nodup (nailsL l)) hsub
  simpa using this
theorem few_pow {l : List Nat} (h : Few l) : 2 ^ (nailsIn (nailsL l)).length ≤ 16 := Nat.pow_le_pow_right (n := 2) (by omega) (few_nails h)
theorem few_name {l : List Nat} (h : Few l) : (nameL (nailsL l)).length ≤ 10 := by
  unfold nameL
  rw [List.length_map]
  exact Nat.le_trans (few_nails h) (by omega)
theorem few_check {l : List Nat} (h : Few l) (hl : l.length ≤ 30000) : checkN l = 0 := by
  unfold checkN
  rw [if_pos (List.all_eq_true.2 fun c hc => letB_iff.2 (h.word c hc)), if_neg (by omega)]
theorem few_letters {l : List Nat} (h : Few l) : lettersOf (strL l) = l := letters_strL h.word.lt256

/-- A list of bytes as a string. -/
def strOf (b : List UInt8) : ByteArray := ⟨b.toArray⟩
theorem own_strs {B : Nat} {w : World} {v : Value} {ss : List (List UInt8)} (h : OwnStrs B w v ss) : ∃ A c, v = .slice A ss.length c ∧ StrS w A ss.length (ss.map strOf) := by
  unfold OwnStrs at h
  rcases Nat.eq_zero_or_pos ss.length with h0 | h0
  · obtain ⟨A, c, e⟩ := own_slice' h
    exact ⟨A, c, e, by rw [List.length_map], fun g => absurd g (by omega)⟩
  · obtain ⟨g, c, rfl⟩ := own_pos h h0
    refine ⟨_, c, rfl, by rw [List.length_map], fun _ => ⟨g, 0, rfl, (own_lt h).1, fun i hi => ?_⟩⟩
    rw [Nat.zero_add, own_cell h i hi, List.getElem?_map, List.getD_eq_getElem?_getD, List.getElem?_map, List.getElem?_eq_getElem hi]
    rfl

theorem bitZ_emod (z : Int) (k : Nat) : bitZ z k = decide ((z / 2 ^ k) % 2 = 1) := by
  unfold bitZ
  generalize z / 2 ^ k = y
  rcases (by omega : y % 2 = 0 ∨ y % 2 = 1) with h | h
  · have h1 : y.tmod 2 = 0 := Int.tmod_eq_zero_of_dvd (Int.dvd_of_emod_eq_zero h)
    rw [h1, h]; rfl
  · have h1 : y.tmod 2 ≠ 0 := fun e => by
      have := Int.emod_eq_zero_of_dvd (Int.dvd_of_tmod_eq_zero e)
      omega
    rw [h]
    simp [h1]
def bit16 (i k : Nat) : Bool := decide ((i / 2 ^ k) % 2 = 1)
theorem bit16_or : ∀ i, i < 16 → ∀ j, j < 16 → ∀ k, k < 4 → bit16 i k = true → bit16 (i ||| j) k = true := by decide +kernel
theorem bitZ_16 (z : Int) (k : Nat) (hk : k < 4) : bitZ z k = bit16 (z % 16).toNat k := by
  rw [bitZ_emod]
  unfold bit16
  have : k = 0 ∨ k = 1 ∨ k = 2 ∨ k = 3 := by omega
  apply decide_eq_decide.2
  rcases this with rfl | rfl | rfl | rfl <;> simp only [Int.pow_zero, Nat.pow_zero, Int.reducePow, Nat.reducePow] <;> omega
theorem wrap_mod16 (N : Nat) : (IntKind.i64.wrap (N : Int) % 16).toNat = N % 16 := by
  rw [IntKind.wrap_i64]
  omega
theorem or_mod16 (A B : Nat) : (A ||| B) % 16 = A % 16 ||| B % 16 := Nat.or_mod_two_pow (n := 4)
theorem ofInt_mod16 (a : Int) : (BitVec.ofInt 64 a).toNat % 16 = (a % 16).toNat := by
  have h1 : (BitVec.ofInt 64 a).toNat = (a % 18446744073709551616).toNat := by simp [BitVec.toNat_ofInt]
  rw [h1]
  omega
theorem or_16 (a b : Int) : ((bits .or .i64 a b) % 16).toNat = (a % 16).toNat ||| (b % 16).toNat := by
  have h : bits .or .i64 a b = IntKind.i64.wrap ((BitVec.ofInt 64 a ||| BitVec.ofInt 64 b).toNat : Int) := rfl
  rw [h, wrap_mod16, BitVec.toNat_or, or_mod16, ofInt_mod16, ofInt_mod16]
theorem bitZ_or {a b : Int} {k : Nat} (hk : k < 4) (h : bitZ a k = true) : bitZ (bits .or .i64 a b) k = true := by
  rw [bitZ_16 _ _ hk] at *
  rw [or_16]
  exact bit16_or _ (by omega) _ (by omega) _ hk h
theorem rising4 (z : Int) : risingB 0 (setL 4 z) = true := by
  unfold setL setTo
  generalize bitZ z = f
  show risingB 0 ((([0, 1, 2, 3] : List Nat).filter f).map fun k => 97 + k) = true
  cases h0 : f 0 <;> cases h1 : f 1 <;> cases h2 : f 2 <;> cases h3 : f 3 <;> simp only [List.filter, h0, h1, h2, h3] <;> rfl
theorem setL_few (z : Int) : Few (setL 4 z) := by
  intro c hc
  unfold setL setTo at hc
  obtain ⟨k, hk, rfl⟩ := List.mem_map.1 hc
  have := List.mem_range.1 (List.mem_filter.1 hk).1
  unfold Lt nailN
  constructor
  · omega
  · rw [if_pos (by omega)]; omega
theorem setL_nail {z : Int} {k : Nat} : nailsL (setL 4 z) k = true ↔ k < 4 ∧ bitZ z k = true := by
  constructor
  · intro h
    obtain ⟨c, hc, e⟩ := nails_of h
    unfold setL setTo at hc
    obtain ⟨j, hj, rfl⟩ := List.mem_map.1 hc
    obtain ⟨h1, h2⟩ := List.mem_filter.1 hj
    have : nailN (97 + j) = j := by unfold nailN; rw [if_pos (by omega)]; omega
    rw [this] at e
    subst e
    exact ⟨List.mem_range.1 h1, h2⟩
  · rintro ⟨h1, h2⟩
    have hm : 97 + k ∈ setL 4 z := List.mem_map.2 ⟨k, List.mem_filter.2 ⟨List.mem_range.2 h1, h2⟩, rfl⟩
    have := nails_mem hm
    have e : nailN (97 + k) = k := by unfold nailN; rw [if_pos (by omega)]; omega
    rwa [e] at this
theorem oneSet_any (z : Int) (W : World) (hz : -9223372036854775808 ≤ z ∧ z ≤ 9223372036854775807) :
    Calls Try.prog 16 #[.slice (some ⟨W.heap.size, 0, none⟩) 1 1, .int .i64 1, .int .i64 4, .bool true] (W.alloc (.cells #[.int .i64 z] 3)) fun e w' => ∃ g c, e = .returned (.slice (some ⟨g, 0, none⟩) 1 c) ∧ w'.cell? ⟨g, 0, none⟩ = some (.string (strL (setL 4 z))) ∧ 1 ≤ c ∧ Below W.heap.size W w' := by
  have hblk := Blk.new W 3 #[.int .i64 z]
  have h := lawSets_any (some ⟨W.heap.size, 0, none⟩) 1 1 1 4 true [z] (W.alloc (.cells #[.int .i64 z] 3)) ⟨rfl, fun _ => ⟨_, 0, rfl, hblk.lt, fun i hi => by
    obtain rfl : i = 0 := by omega
    exact hblk.cell 0⟩⟩ (by omega) (by omega) (by omega) (fun x hx => by
    obtain rfl : x = z := by simpa using hx
    exact hz)
  refine h.mono ?_
  rintro e w' ⟨v, rfl, hown, hb⟩
  have e1 : oneS 4 true z = setL 4 z := by unfold oneS; rw [if_neg (by simp)]
  simp only [List.take_succ_cons, List.take_zero, List.map_cons, List.map_nil, List.length_singleton, e1] at hown
  obtain ⟨g, c, rfl⟩ := own_pos hown (by omega)
  exact ⟨g, c, rfl, own_cell hown 0 (by omega), own_capd hown, (below_new' W _).trans (hb.mono (alloc_size_le W _ (Nat.le_refl _)))⟩

set_option maxRecDepth 100000 in
set_option maxHeartbeats 600000 in
theorem hangWires_walk (s x : ByteArray) (b0 b1 : Int) (m : Int) (w : World) (hb0 : -9223372036854775808 ≤ b0 ∧ b0 ≤ 9223372036854775807) (hb1 : -9223372036854775808 ≤ b1 ∧ b1 ≤ 9223372036854775807) (hm : w.cell? ⟨0, 0, none⟩ = some (.int .i64 m)) (hw0 : 0 < w.heap.size) :
    Calls Try.prog 9 #[.string s, .string x, .agg #[.int .i64 b0, .int .i64 b1]] w fun e w' => e = .returned (.bool true) ∧ Below w.heap.size w w' := by
  have Hr0 := Lib.hid hb0
  have Hr1 := Lib.hid hb1
  clear hb0 hb1
  have HT1 : Hid (∀ W : World, Calls Try.prog 25 #[.string s, .int .i64 4, .int .i64 40] W fun e w' => e = .returned (.string (strL (textL 4 ((lettersOf s).take 40)))) ∧ Below W.heap.size W w') := fun W => text_any s 4 40 W (by omega) (by omega) (by omega)
  have HT2 : Hid (∀ W : World, Calls Try.prog 25 #[.string x, .int .i64 4, .int .i64 12] W fun e w' => e = .returned (.string (strL (textL 4 ((lettersOf x).take 12)))) ∧ Below W.heap.size W w') := fun W => text_any x 4 12 W (by omega) (by omega) (by omega)
  have hfu := textL_few ((lettersOf s).take 40)
  have hfv := textL_few ((lettersOf x).take 12)
  have hlu : (textL 4 ((lettersOf s).take 40)).length ≤ 40 := by unfold textL; rw [List.length_map, List.length_take]; omega
  have hlv : (textL 4 ((lettersOf x).take 12)).length ≤ 12 := by unfold textL; rw [List.length_map, List.length_take]; omega
  generalize textL 4 ((lettersOf s).take 40) = u at *
  generalize textL 4 ((lettersOf x).take 12) = v at *
  have hli : (invL u).length ≤ 40 := by rw [invL_length]; exact hlu
  have hlj : (invL v).length ≤ 12 := by rw [invL_length]; exact hlv
  have hfc : Few (v ++ u ++ invL v) := (hfv.append hfu).append hfv.inv
  have hlc : (v ++ u ++ invL v).length ≤ 64 := by simp only [List.length_append]; omega
  have hfd : Few (u ++ invL u) := hfu.append hfu.inv
  have hld : (u ++ invL u).length ≤ 80 := by simp only [List.length_append]; omega
  have HI1 := Lib.hid (fun W => inverseOf_any (strL u) W (by rw [strL_size]; omega) (by rw [few_letters hfu]; exact few_check hfu (by omega)))
  have HI2 := Lib.hid (fun W => inverseOf_any (strL v) W (by rw [strL_size]; omega) (by rw [few_letters hfv]; exact few_check hfv (by omega)))
  have HF : Hid (∀ (z : Int) (W : World), Calls Try.prog 17 #[.string (strL u), .string (strL (setL 4 z))] W fun e w' => e = .returned (.tuple #[.bool (fallsL (nailsL (setL 4 z)) (redL u)), .int .i64 0]) ∧ Below W.heap.size W w') := fun z W => by
    have hl := few_letters (setL_few z)
    have hs : (strL (setL 4 z)).size ≤ 4 := by rw [strL_size]; exact setTo_length 4 z
    have h := falls_any (strL u) (strL (setL 4 z)) W (by rw [strL_size]; omega) (by omega) (by rw [few_letters hfu]; exact few_check hfu (by omega)) (by rw [hl]; exact rising4 z)
    rwa [hl, few_letters hfu] at h
  have HA : Hid (∀ (W : World), Calls Try.prog 17 #[.string (strL u), .string ⟨#[97, 98, 99, 100]⟩] W fun e w' => e = .returned (.tuple #[.bool true, .int .i64 0]) ∧ Below W.heap.size W w') := fun W => by
    have h := falls_any (strL u) ⟨#[97, 98, 99, 100]⟩ W (by rw [strL_size]; omega) (by decide) (by rw [few_letters hfu]; exact few_check hfu (by omega)) (by decide +kernel)
    rw [few_letters hfu, falls_all hfu.word (fun c hc => by
      have hn := (hfu c hc).2
      have : ∀ k, k < 4 → nailsL (lettersOf ⟨#[97, 98, 99, 100]⟩) k = true := by decide +kernel
      exact this _ hn)] at h
    exact h
  have Hmore : Hid (fallsL (nailsL (setL 4 b0)) (redL u) = true → fallsL (nailsL (setL 4 (bits .or .i64 b0 b1))) (redL u) = true) := fun h => falls_more hfu.word (fun k hk => by
    obtain ⟨h1, h2⟩ := setL_nail.1 hk
    exact setL_nail.2 ⟨h1, bitZ_or h1 h2⟩) h
  rw [few_letters hfu] at HI1
  rw [few_letters hfv] at HI2
  have hsets : ∀ (l : List Nat) (hf : Few l) (hl : l.length ≤ 100) (W : World), Calls Try.prog 14 #[.string (strL l)] W (RetSets l 16 W) := fun l hf hl W => by
    have h := sets_any (strL l) 16 W (by rw [strL_size]; omega) (by rw [few_letters hf]; exact few_check hf (by omega)) (by rw [few_letters hf]; exact few_name hf) (by rw [few_letters hf]; exact doneF_all _ 16 (few_pow hf)) (by omega)
    rwa [few_letters hf] at h
  have HS1 := Lib.hid (hsets u hfu (by omega))
  have HS2 := Lib.hid (hsets (invL u) hfu.inv (by omega))
  have HS3 := Lib.hid (hsets (v ++ (u ++ invL v)) (List.append_assoc v u (invL v) ▸ hfc) (by rw [← List.append_assoc]; omega))
  unfold RetSets at HS1 HS2 HS3
  rw [sets_inv hfu.word] at HS2
  have hass : v ++ u ++ invL v = v ++ (u ++ invL v) := List.append_assoc ..
  have hcj : setsB (v ++ u ++ invL v) 16 = setsB u 16 := by
    rw [hass]
    exact sets_conj hfu.word hfv.word 16 (few_pow hfu) (by rw [← hass]; exact few_pow hfc)
  rw [hass] at hcj
  rw [hcj] at HS3
  have HR := Lib.hid (fun W => reduce_any (strL (u ++ invL u)) W (by rw [strL_size]; omega) (by rw [few_letters hfd]; exact few_check hfd (by omega)))
  rw [few_letters hfd, red_inv hfu.word] at HR
  have hcat1 := strL_append v u
  have hcat2 := strL_append (v ++ u) (invL v)
  have hcat3 := strL_append u (invL u)
  have hz1 : (strL v).size ≤ 12 := by rw [strL_size]; exact hlv
  have hz2 : (strL u).size ≤ 40 := by rw [strL_size]; exact hlu
  have hz3 : (strL (v ++ u)).size ≤ 52 := by rw [strL_size, List.length_append]; omega
  have hz4 : (strL (invL v)).size ≤ 12 := by rw [strL_size]; exact hlj
  have hz5 : (strL (invL u)).size ≤ 40 := by rw [strL_size]; exact hli
  have Hfu := Lib.hid hfu
  have Hlu := Lib.hid hlu
  have hnil : strL [] = (⟨#[]⟩ : ByteArray) := rfl
  rw [hnil] at HR
  have hL : (setsB u 16).length ≤ 16 := by
    unfold setsB
    rw [namesB_length]
    exact leastL_length' _ _ _
  generalize setsB u 16 = L at *
  clear hsets hass hcj hfu hfv hfc hfd hlc hld hli hlj hlu hlv
  go_enter Try.func9, Try.ntmps9
  have hbox := below_new' w (.cells #[.int .i64 b0, .int .i64 b1] 48)
  have hblk := Blk.new w 48 #[.int .i64 b0, .int .i64 b1]
  have Hbox := Lib.hid hbox
  have Hblk := Lib.hid hblk
  clear hbox hblk
  go_wp2_with fail
  refine (HT1.out _).mono ?_
  rintro e w1 ⟨rfl, hb1⟩
  clear HT1
  go_wp2_with fail
  refine (HT2.out _).mono ?_
  rintro e w2 ⟨rfl, hb2⟩
  clear HT2
  go_wp2_with fail
  refine (HI1.out _).mono ?_
  rintro e w3 ⟨rfl, hb3⟩
  clear HI1
  go_wp2_with fail
  refine (HI2.out _).mono ?_
  rintro e w4 ⟨rfl, hb4⟩
  clear HI2
  go_wp2_with fail
  refine (HS1.out _).mono ?_
  rintro e w5 ⟨v5, rfl, ho5, hb5⟩
  clear HS1
  go_wp2_with fail
  refine (HS2.out _).mono ?_
  rintro e w6 ⟨v6, rfl, ho6, hb6⟩
  clear HS2
  go_wp2_with fail
  refine (HS3.out _).mono ?_
  rintro e w7 ⟨v7, rfl, ho7, hb7⟩
  clear HS3
  go_wp2_with fail
  refine (HR.out _).mono ?_
  rintro e w8 ⟨rfl, hb8⟩
  clear HR
  obtain ⟨A5, c5, rfl, hs5⟩ := own_strs ho5
  obtain ⟨A6, c6, rfl, hs6⟩ := own_strs ho6
  obtain ⟨A7, c7, rfl, hs7⟩ := own_strs ho7
  have hs5' := ((hs5.below hb6).below (hb7.mono (Nat.le_refl _))).below hb8
  have hs6' := (hs6.below hb7).below hb8
  have hs7' := hs7.below hb8
  have hb08 : Below w.heap.size w w8 := by
    have h1 := Hbox.out
    have h2 := h1.trans (hb1.mono h1.size)
    have h3 := h2.trans (hb2.mono h2.size)
    have h4 := h3.trans (hb3.mono h3.size)
    have h5 := h4.trans (hb4.mono h4.size)
    have h6 := h5.trans (hb5.mono h5.size)
    have h7 := h6.trans (hb6.mono h6.size)
    have h8 := h7.trans (hb7.mono h7.size)
    exact h8.trans (hb8.mono h8.size)
  have hblk8 : Blk w8 w.heap.size 48 #[.int .i64 b0, .int .i64 b1] := by
    have h0 := Hblk.out
    have k1 := h0.below hb1 h0.lt
    have k2 := k1.below hb2 k1.lt
    have k3 := k2.below hb3 k2.lt
    have k4 := k3.below hb4 k3.lt
    have k5 := k4.below hb5 k4.lt
    have k6 := k5.below hb6 k5.lt
    have k7 := k6.below hb7 k6.lt
    exact k7.below hb8 k7.lt
  have hmx : L.length ≤ 4611686018427387904 := by
    have := hL
    omega
  have Hb08 := Lib.hid hb08
  have Hblk8 := Lib.hid hblk8
  have HQ1 := Lib.hid (same_any A5 A6 L.length L.length c5 c6 (L.map strOf) (L.map strOf) w8 hs5' hs6' hmx hmx)
  have HQ2 := Lib.hid (fun W (hW : Below w8.heap.size w8 W) => same_any A5 A7 L.length L.length c5 c7 (L.map strOf) (L.map strOf) W (hs5'.below hW) (hs7'.below hW) hmx hmx)
  have hdd : decide (L.map strOf = L.map strOf) = true := decide_eq_true rfl
  rw [hdd] at HQ1 HQ2
  clear hb1 hb2 hb3 hb4 hb5 hb6 hb7 hb8 hs5 hs6 hs7 hs5' hs6' hs7' ho5 ho6 ho7 hb08 hblk8 hdd Hbox Hblk
  go_wp2_with fail
  refine HQ1.out.mono ?_
  rintro e w9 ⟨rfl, hb9⟩
  clear HQ1
  go_wp2_with fail
  refine (HQ2.out _ hb9).mono ?_
  rintro e w10 ⟨rfl, hb10⟩
  clear HQ2
  have hblk10 := (Hblk8.out.below hb9 Hblk8.out.lt)
  have hblk10' := hblk10.below hb10 hblk10.lt
  have hbel10 := (Hb08.out.trans (hb9.mono Hb08.out.size))
  have Hb010 := Lib.hid (hbel10.trans (hb10.mono hbel10.size))
  have Hblk10 := Lib.hid hblk10'
  have hcb0 := hblk10'.cell 0
  have hcb1 := hblk10'.cell 1
  clear Hblk8 Hb08 hblk10 hblk10' hbel10 hb9 hb10
  go_wp2_with fail
  refine (oneSet_any b0 w10 Hr0.out).mono ?_
  rintro e w11 ⟨g1, k1, rfl, hc1, hk1, hb11⟩
  have hcb0' := (hb11.cell (p := ⟨w.heap.size, 0, none⟩) Hblk10.out.lt).trans hcb0
  have hcb1' := (hb11.cell (p := ⟨w.heap.size, 1, none⟩) Hblk10.out.lt).trans hcb1
  have Hb011 := Lib.hid (Hb010.out.trans (hb11.mono Hb010.out.size))
  clear hcb0 hcb1 hb11 Hb010 Hblk10
  go_wp2_with fail
  refine (oneSet_any (bits .or .i64 b0 b1) w11 ⟨bits_lo_i64 .or b0 b1, bits_hi_i64 .or b0 b1⟩).mono ?_
  rintro e w12 ⟨g2, k2, rfl, hc2, hk2, hb12⟩
  have Hb012 := Lib.hid (Hb011.out.trans (hb12.mono Hb011.out.size))
  clear hb12 Hb011 hcb0' hcb1' hc1
  go_wp2_with fail
  refine (HF.out b0 w12).mono ?_
  rintro e w13 ⟨rfl, hb13⟩
  have Hb013 := Lib.hid (Hb012.out.trans (hb13.mono Hb012.out.size))
  clear hb13 Hb012 hc2
  go_wp2_with fail
  refine (HF.out _ w13).mono ?_
  rintro e w14 ⟨rfl, hb14⟩
  have Hb014 := Lib.hid (Hb013.out.trans (hb14.mono Hb013.out.size))
  clear hb14 Hb013 HF
  go_wp2_with fail
  refine (HA.out w14).mono ?_
  rintro e w15 ⟨rfl, hb15⟩
  have Hb015 := Lib.hid (Hb014.out.trans (hb15.mono Hb014.out.size))
  have Haw := Lib.hid (awake_any m w15 ((Hb015.out.cell (p := ⟨0, 0, none⟩) hw0).trans hm) (Nat.lt_of_lt_of_le hw0 Hb015.out.size))
  clear hb15 Hb014 HA hm hw0
  generalize fallsL (nailsL (setL 4 (bits .or .i64 b0 b1))) (redL u) = Q at *
  generalize fallsL (nailsL (setL 4 b0)) (redL u) = P at *
  have hPQ : P = false ∨ (P = true ∧ Q = true) := by
    cases P with
    | false => exact .inl rfl
    | true => exact .inr ⟨rfl, Hmore.out rfl⟩
  clear Hmore
  rcases hPQ with rfl | ⟨rfl, rfl⟩
  all_goals
    go_wp2_with fail
    refine Haw.out.mono ?_
    rintro e w16 ⟨rfl, hb16⟩
    clear Haw
    go_wp2_with fail
    go_ret
    exact ⟨rfl, Hb015.out.trans (hb16.mono Hb015.out.size)⟩

end Go.Proofs.Ytolppbilcmobbaa
