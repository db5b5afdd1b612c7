/-
  The walk of HangLong.
-/
import Derived.Test.YtolppbilcmobbaaRInv
import Derived.Test.YtolppbilcmobbaaPSets
namespace Go.Proofs.Ytolppbilcmobbaa
open Go.RowKit Go.Shelf

/-- The letters of the long word. -/
def chL (q i : Nat) : Nat := (if i % 5 < 2 then 65 else 97) + (i * i + i / 7 + q) % 3
def longL (q n : Nat) : List Nat := (List.range n).map (chL q)
theorem chL_lt (q i : Nat) : Lt (chL q i) ∧ nailN (chL q i) < 3 := by
  have := Nat.mod_lt (i * i + i / 7 + q) (show 0 < 3 by omega)
  unfold chL Lt nailN
  split
  · refine ⟨by omega, ?_⟩
    rw [if_neg (by omega)]; omega
  · refine ⟨by omega, ?_⟩
    rw [if_pos (by omega)]; omega
theorem longL_len (q n : Nat) : (longL q n).length = n := by unfold longL; rw [List.length_map, List.length_range]
theorem longL_few (q n : Nat) : ∀ c ∈ longL q n, Lt c ∧ nailN c < 3 := fun c hc => by
  obtain ⟨i, _, rfl⟩ := List.mem_map.1 hc
  exact chL_lt q i
/-- What lies in the block while the letters are written. -/
theorem long_set (q n k : Nat) (h : k < n) : (longL q k ++ List.replicate (n - k) 0).set k (chL q k) = longL q (k + 1) ++ List.replicate (n - (k + 1)) 0 := by
  have e : n - k = (n - (k + 1)) + 1 := by omega
  have h2 : longL q (k + 1) = longL q k ++ [chL q k] := by unfold longL; rw [List.range_succ, List.map_append]; rfl
  rw [e, List.replicate_succ, List.set_append_right _ _ (by rw [longL_len]; exact Nat.le_refl _), longL_len, Nat.sub_self, List.set_cons_zero, h2, List.append_assoc]
  rfl

theorem oneSetK (K : Nat) (z : Int) (W : World) (hK : K ≤ 26) (hz : -9223372036854775808 ≤ z ∧ z ≤ 9223372036854775807) :
    Calls Try.prog 16 #[.slice (some ⟨W.heap.size, 0, none⟩) 1 1, .int .i64 1, .int .i64 K, .bool true] (W.alloc (.cells #[.int .i64 z] 3)) fun e w' => ∃ g c, e = .returned (.slice (some ⟨g, 0, none⟩) 1 c) ∧ w'.cell? ⟨g, 0, none⟩ = some (.string (strL (oneS K true z))) ∧ 1 ≤ c ∧ Below W.heap.size W w' := by
  have hblk := Blk.new W 3 #[.int .i64 z]
  have h := lawSets_any (some ⟨W.heap.size, 0, none⟩) 1 1 1 K true [z] (W.alloc (.cells #[.int .i64 z] 3)) ⟨rfl, fun _ => ⟨_, 0, rfl, hblk.lt, fun i hi => by
    obtain rfl : i = 0 := by omega
    exact hblk.cell 0⟩⟩ (by omega) (by omega) (by omega) (fun x hx => by
    obtain rfl : x = z := by simpa using hx
    exact hz)
  refine h.mono ?_
  rintro e w' ⟨v, rfl, hown, hb⟩
  simp only [List.take_succ_cons, List.take_zero, List.map_cons, List.map_nil, List.length_singleton] at hown
  obtain ⟨g, c, rfl⟩ := own_pos hown (by omega)
  exact ⟨g, c, rfl, own_cell hown 0 (by omega), own_capd hown, (below_new' W _).trans (hb.mono (alloc_size_le W _ (Nat.le_refl _)))⟩

/-- What the calls of HangLong return of a long word, when there are not too many letters. -/
structure LongC (S p : ByteArray) (X Y : ByteArray) (d : Bool) (L : List ByteArray) : Prop where
  red : ∀ W, Calls Try.prog 11 #[.string S] W fun e w' => e = .returned (.tuple #[.string X, .int .i64 0]) ∧ Below W.heap.size W w'
  inv : ∀ W, Calls Try.prog 12 #[.string S] W fun e w' => e = .returned (.tuple #[.string Y, .int .i64 0]) ∧ Below W.heap.size W w'
  fal : ∀ W, Calls Try.prog 17 #[.string S, .string p] W fun e w' => e = .returned (.tuple #[.bool d, .int .i64 0]) ∧ Below W.heap.size W w'
  sets : ∀ W, Calls Try.prog 14 #[.string S] W fun e w' => ∃ A c, e = .returned (.tuple #[.slice A L.length c, .int .i64 0]) ∧ StrS w' A L.length L ∧ Below W.heap.size W w'
  rred : ∀ W, Calls Try.prog 18 #[.string S] W fun e w' => e = .returned (.string X) ∧ Below W.heap.size W w'
  rinv : ∀ W, Calls Try.prog 19 #[.string S] W fun e w' => e = .returned (.string Y) ∧ Below W.heap.size W w'
  rfal : ∀ W, Calls Try.prog 20 #[.string S, .string p] W fun e w' => e = .returned (.bool d) ∧ Below W.heap.size W w'
  rsets : ∀ W, Calls Try.prog 22 #[.string S] W fun e w' => ∃ A c, e = .returned (.slice A L.length c) ∧ StrS w' A L.length L ∧ Below W.heap.size W w'
  small : L.length ≤ 1000000

theorem long_calls (q M : Nat) (z : Int) (hM : M ≤ 30000) : ∃ X Y d L, LongC (strL (longL q M)) (strL (oneS 3 true z)) X Y d L := by
  have hf := longL_few q M
  have hw : IsWord (longL q M) := fun c hc => (hf c hc).1
  have hlen := longL_len q M
  generalize longL q M = l at *
  have hl : lettersOf (strL l) = l := letters_strL hw.lt256
  have hsz : (strL l).size ≤ 30000 := by rw [strL_size]; omega
  have hc : checkN (lettersOf (strL l)) = 0 := by rw [hl]; exact checkN_word hw (by omega)
  have hwl : IsWord (lettersOf (strL l)) := by rw [hl]; exact hw
  have hr := rising_one (show 3 ≤ 26 by omega) true z
  have hp : lettersOf (strL (oneS 3 true z)) = oneS 3 true z := letters_strL (rising_word hr).lt256
  have hpz : (strL (oneS 3 true z)).size ≤ 26 := by rw [strL_size]; exact rising_size hr
  have hn3 : ∀ k, nailsL l k = true → k < 3 := fun k hk => by
    obtain ⟨c, hcm, rfl⟩ := nails_of hk
    exact (hf c hcm).2
  have hfew : (nameL (nailsL (lettersOf (strL l)))).length ≤ 10 := by rw [hl]; exact Nat.le_trans (name_few hn3) (by omega)
  have hp8 : 2 ^ (nailsIn (nailsL l)).length ≤ 8 := pow_few hn3
  refine ⟨strL (redL l), strL (invL l), fallsL (nailsL (oneS 3 true z)) (redL l), (setsB l 8).map fun b => (⟨b.toArray⟩ : ByteArray), ⟨fun W => ?_, fun W => ?_, fun W => ?_, fun W => ?_, fun W => ?_, fun W => ?_, fun W => ?_, fun W => ?_, ?_⟩⟩
  · have h := reduce_any (strL l) W (by omega) hc
    rwa [hl] at h
  · have h := inverseOf_any (strL l) W (by omega) hc
    rwa [hl] at h
  · have h := falls_any (strL l) (strL (oneS 3 true z)) W (by omega) (by omega) hc (by rw [hp]; exact hr)
    rwa [hl, hp] at h
  · have h := sets_any (strL l) 8 W (by omega) hc hfew (by rw [hl]; exact doneF_all _ 8 hp8) (by omega)
    refine h.mono ?_
    rintro e w' ⟨v, rfl, hown, hb⟩
    rw [hl] at hown
    obtain ⟨A, c, rfl, h⟩ := own_strs2 hown
    exact ⟨A, c, rfl, h, hb⟩
  · have h := rreduce_any (strL l) W hwl (by omega)
    rwa [hl] at h
  · have h := rinverse_any (strL l) W hwl (by omega)
    rwa [hl] at h
  · have h := rfalls_any (strL l) (strL (oneS 3 true z)) W hwl (by omega) (by omega)
    rwa [hl, hp, stay_keep hr, ← falls_eq hw] at h
  · have h := rsets_any (strL l) W hwl (by omega) hfew
    rw [hl, setsR_eq hw hp8] at h
    refine h.mono ?_
    rintro e w' ⟨A, c, rfl, _, h, hb⟩
    exact ⟨A, c, rfl, h, hb⟩
  · rw [List.length_map]
    unfold setsB
    rw [namesB_length]
    exact Nat.le_trans (leastL_length' _ _ _) (by omega)

theorem long_val (k q : Nat) (hk : k ≤ 30001) (hq : q < 5) : (wrap64 (wrap64 (wrap64 ((k : Int) * (k : Int)) + (k : Int) / 7) + (q : Int))).tmod 3 = (((k * k + k / 7 + q) % 3 : Nat) : Int) := by
  have e1 : (k : Int) * (k : Int) = ((k * k : Nat) : Int) := by rw [Int.natCast_mul]
  have e2 : (k : Int) / 7 = ((k / 7 : Nat) : Int) := by omega
  have ha : k * k ≤ 30001 * 30001 := Nat.mul_le_mul hk hk
  have hb : k / 7 ≤ 30001 := by omega
  rw [e1, e2]
  clear e1 e2 hk
  generalize k * k = a at *
  generalize k / 7 = b at *
  rw [wrap64_in (a : Int) (by omega) (by omega), wrap64_in ((a : Int) + (b : Int)) (by omega) (by omega), wrap64_in ((a : Int) + (b : Int) + (q : Int)) (by omega) (by omega), Int.tmod_eq_emod_of_nonneg (by omega)]
  omega

set_option maxRecDepth 100000 in
set_option maxHeartbeats 1000000 in
theorem hangLong_walk (n : Int) (s : ByteArray) (m : Int) (w : World) (hn : -9223372036854775808 ≤ n ∧ n ≤ 9223372036854775807) (hsS : s.size ≤ 9223372036854775807) (hm : w.cell? ⟨0, 0, none⟩ = some (.int .i64 m)) (hw0 : 0 < w.heap.size) :
    Calls Try.prog 3 #[.int .i64 n, .string s] w fun e w' => e = .returned (.bool true) ∧ Below w.heap.size w w' := by
  have Haw := Lib.hid (fun W (hW : Below w.heap.size w W) => awake_any m W ((hW.cell (p := ⟨0, 0, none⟩) hw0).trans hm) (Nat.lt_of_lt_of_le hw0 hW.size))
  clear hm hw0
  have hun : 0 ≤ IntKind.u64.wrap n := by
    rw [show IntKind.u64.wrap n = n % 18446744073709551616 from rfl]
    omega
  obtain ⟨M, hM1, hM2, hMw⟩ : ∃ M : Nat, 29999 ≤ M ∧ M ≤ 30001 ∧ 29999 + IntKind.u64.wrap n % 3 = (M : Int) := by
    have h1 : 0 ≤ IntKind.u64.wrap n % 3 := by omega
    have h2 : IntKind.u64.wrap n % 3 < 3 := by omega
    generalize IntKind.u64.wrap n % 3 = x at *
    exact ⟨(29999 + x).toNat, by omega, by omega, by omega⟩
  obtain ⟨q, hq, hqw⟩ : ∃ q : Nat, q < 5 ∧ IntKind.u64.wrap n % 5 = (q : Int) := by
    have h1 : 0 ≤ IntKind.u64.wrap n % 5 := by omega
    have h2 : IntKind.u64.wrap n % 5 < 5 := by omega
    generalize IntKind.u64.wrap n % 5 = x at *
    exact ⟨x.toNat, by omega, by omega⟩
  have hi : (Try.prog.info? 5).map (fun i => (i.zero, i.size, i.bytes)) = some (some (.int .u8 0), 1, 1) := info_u8
  have hmk := run_makeInts (P := Try.prog) (t := 23) (e := 5) (k := .u8) Try.underlying23 hi (by omega) .i64 .i64 M (by omega) w
  have hb0 := Blk.new w 5 (cellsOf .u8 (List.replicate M 0))
  have hbel0 := below_new' w (.cells (cellsOf .u8 (List.replicate M 0)) 5)
  go_enter Try.func3, Try.ntmps3
  go_wp2_with fail
  generalize w.alloc (.cells (cellsOf .u8 (List.replicate M 0)) 5) = W0 at *
  generalize hg : w.heap.size = g at *
  have Hg := Lib.hid hg
  clear hg hmk hMw hn
  go_loopw [7] (fun kv wr => ∃ k : Nat, k ≤ M ∧ kv = .int .i64 k ∧ Blk wr g 5 (cellsOf .u8 (longL q k ++ List.replicate (M - k) 0)) ∧ Below g w wr) (fun kv _ => M - (intOf kv).toNat)
  case atStart => exact ⟨0, Nat.zero_le _, rfl, hb0, hbel0⟩
  case round =>
    obtain ⟨k, hk, rfl, hblk, hbel⟩ := hrel
    by_cases hlt : k < M
    · have hlti : (k : Int) < (M : Int) := by omega
      have hfree := hblk.free k
      have hcx := hblk.num k (by rw [List.length_append, List.length_replicate, longL_len]; omega)
      generalize (longL q k ++ List.replicate (M - k) 0).getD k 0 = old at hcx
      obtain ⟨r, hr⟩ : ∃ r, (k * k + k / 7 + q) % 3 = r := ⟨_, rfl⟩
      have hr3 : r < 3 := by rw [← hr]; exact Nat.mod_lt _ (by omega)
      have hr8 : (r : Int) % 256 = (r : Int) := by omega
      have hk1 : k ≤ 30001 := by omega
      have hcv := long_val k q hk1 hq
      rw [hr] at hcv
      have hch : chL q k = (if k % 5 < 2 then 65 else 97) + r := by unfold chL; rw [hr]
      have Hset := Lib.hid (long_set q M k hlt)
      have Hch := Lib.hid hch
      clear hr hch
      go_upto_region 7 with fail
      clear hcv
      by_cases h5 : k % 5 < 2
      · have h5i : (k : Int) % 5 < 2 := by omega
        have h65 : (65 + (r : Int)) % 256 = 65 + (r : Int) := by omega
        have hput := hblk.put k (65 + r) (z := 65 + (r : Int)) (by omega)
        have e : (longL q k ++ List.replicate (M - k) 0).set k (65 + r) = longL q (k + 1) ++ List.replicate (M - (k + 1)) 0 := by
          rw [← Hset.out, Hch.out, if_pos h5]
        rw [e] at hput
        have Hput := Lib.hid hput
        have Hbel := Lib.hid hbel
        clear hput hbel hblk e h5
        go_wp2_with fail
        go_roundw
        case rel => exact ⟨k + 1, by omega, by go_num, Hput.out, Hbel.out.setCell (p := ⟨g, k, none⟩) (Nat.le_refl _) _⟩
        case measure => simp [intOf]; omega
      · have h5i : ¬ (k : Int) % 5 < 2 := by omega
        have h97 : (97 + (r : Int)) % 256 = 97 + (r : Int) := by omega
        have hput := hblk.put k (97 + r) (z := 97 + (r : Int)) (by omega)
        have e : (longL q k ++ List.replicate (M - k) 0).set k (97 + r) = longL q (k + 1) ++ List.replicate (M - (k + 1)) 0 := by
          rw [← Hset.out, Hch.out, if_neg h5]
        rw [e] at hput
        have Hput := Lib.hid hput
        have Hbel := Lib.hid hbel
        clear hput hbel hblk e h5
        go_wp2_with fail
        go_roundw
        case rel => exact ⟨k + 1, by omega, by go_num, Hput.out, Hbel.out.setCell (p := ⟨g, k, none⟩) (Nat.le_refl _) _⟩
        case measure => simp [intOf]; omega
    · obtain rfl : k = M := by omega
      rw [Nat.sub_self, List.replicate_zero, List.append_nil] at hblk
      have hlen := longL_len q k
      have hown := own_of_blk (B := g) hblk (Nat.le_refl _) (by rw [hlen]; unfold maxLen; omega)
      have hconv := own_string (t := 23) Try.underlying23 hown
      rw [hlen] at hconv
      have Hbw := Lib.hid hbel
      have Hgs : Hid (g ≤ wr.heap.size) := by show _ ≤ _; have := hbel.size; have := Hg.out; omega
      have hssz : (strL (longL q k)).size = k := by rw [strL_size, hlen]
      clear hown hblk hbel
      by_cases hbig : 30000 < k
      · have hbigi : (30000 : Int) < (k : Int) := by omega
        have hck : checkN (lettersOf (strL (longL q k))) = 2 := by
          rw [letters_strL (fun c hc => by have := (longL_few q k c hc).1.lt; omega)]
          unfold checkN
          rw [if_pos (List.all_eq_true.2 fun c hc => letB_iff.2 (longL_few q k c hc).1), if_pos (by rw [hlen]; exact hbig)]
        have H1 := Lib.hid (fun W => reduce_bad (strL (longL q k)) W (by omega) (by rw [hck]; decide))
        have H2 := Lib.hid (fun W => inverse_bad (strL (longL q k)) W (by omega) (by rw [hck]; decide))
        have H3 := Lib.hid (fun W => root_bad (strL (longL q k)) W (by omega) (by rw [hck]; decide))
        have H4 := Lib.hid (fun W => sets_bad (strL (longL q k)) W (by omega) (by rw [hck]; decide))
        rw [hck] at H1 H2 H3 H4
        generalize strL (longL q k) = S at *
        clear hck hlen
        go_wp2_with (first
          | (go_at_call 11; refine (H1.out _).mono ?_; clear H1; rintro e w2 ⟨rfl, hb2⟩)
          | (go_at_call 12; refine (H2.out _).mono ?_; clear H2; rintro e w3 ⟨rfl, hb3⟩; have hb13 := hb2.trans (hb3.mono hb2.size))
          | (go_at_call 13; refine (H3.out _).mono ?_; clear H3; rintro e w4 ⟨rfl, hb4⟩; have hb14 := hb13.trans (hb4.mono hb13.size))
          | (go_at_call 14; refine (H4.out _).mono ?_; clear H4; rintro e w5 ⟨rfl, hb5⟩; have hb15 := hb14.trans (hb5.mono hb14.size); have hb05 := Hbw.out.trans (hb15.mono Hgs.out))
          | (go_at_call 15; refine (Haw.out w5 hb05).mono ?_; clear Haw; rintro e w6 ⟨rfl, hb6⟩))
        go_ret
        have hs5 : g ≤ w5.heap.size := Nat.le_trans Hgs.out hb15.size
        exact ⟨rfl, by rw [Hg.out]; exact hb05.trans (hb6.mono hs5)⟩
      · have hbigi : ¬ (30000 : Int) < (k : Int) := by omega
        obtain ⟨X, Y, d, L, hC⟩ := long_calls q k (s.size : Int) (by omega)
        have HO := Lib.hid (fun W => oneSetK 3 (s.size : Int) W (by omega) ⟨by omega, by omega⟩)
        generalize strL (oneS 3 true (s.size : Int)) = p at *
        generalize strL (longL q k) = S at *
        have HC := Lib.hid hC
        have hmx : L.length ≤ 4611686018427387904 := by have := hC.small; omega
        clear hC hlen
        go_wp2_with (first
          | (go_at_call 11; refine (HC.out.red _).mono ?_; rintro e w2 ⟨rfl, hb2⟩)
          | (go_at_call 12; refine (HC.out.inv _).mono ?_; rintro e w3 ⟨rfl, hb3⟩; have hb13 := hb2.trans (hb3.mono hb2.size))
          | (go_at_call 16; refine (HO.out w3).mono ?_; clear HO; rintro e w4 ⟨gs, cs, rfl, hcs, h1c, hb4⟩; have hb14 := hb13.trans (hb4.mono hb13.size))
          | (go_at_call 17; refine (HC.out.fal _).mono ?_; rintro e w5 ⟨rfl, hb5⟩; have hb15 := hb14.trans (hb5.mono hb14.size))
          | (go_at_call 14; refine (HC.out.sets _).mono ?_; rintro e w6 ⟨A6, c6, rfl, hS6, hb6⟩; have hb16 := hb15.trans (hb6.mono hb15.size))
          | (go_at_call 18; refine (HC.out.rred _).mono ?_; rintro e w7 ⟨rfl, hb7⟩; have hS7 := hS6.below hb7; have hb17 := hb16.trans (hb7.mono hb16.size))
          | (go_at_call 19; refine (HC.out.rinv _).mono ?_; rintro e w8 ⟨rfl, hb8⟩; have hS8 := hS7.below hb8; have hb18 := hb17.trans (hb8.mono hb17.size))
          | (go_at_call 20; refine (HC.out.rfal _).mono ?_; rintro e w9 ⟨rfl, hb9⟩; have hS9 := hS8.below hb9; have hb19 := hb18.trans (hb9.mono hb18.size))
          | (go_at_call 22; refine (HC.out.rsets _).mono ?_; rintro e w10 ⟨A10, c10, rfl, hS10, hb10⟩; have hSX := hS9.below hb10; have hb110 := hb19.trans (hb10.mono hb19.size))
          | (go_at_call 21; refine (same_any A6 A10 L.length L.length c6 c10 L L w10 hSX hS10 hmx hmx).mono ?_; rintro e w11 ⟨rfl, hb11⟩; rw [decide_eq_true (rfl : L = L)]; have hb111 := hb110.trans (hb11.mono hb110.size); have hb011 := Hbw.out.trans (hb111.mono Hgs.out))
          | (go_at_call 15; refine (Haw.out w11 hb011).mono ?_; clear Haw; rintro e w12 ⟨rfl, hb12⟩))
        go_ret
        have hs11 : g ≤ w11.heap.size := Nat.le_trans Hgs.out hb111.size
        exact ⟨rfl, by rw [Hg.out]; exact hb011.trans (hb12.mono hs11)⟩

end Go.Proofs.Ytolppbilcmobbaa
