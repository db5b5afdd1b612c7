/-
  The walk of tied: a wire that falls with each single one of its nails.
-/
import Derived.Test.YtkdalgdckgmccaaGreatDoorComm
import Derived.Deep.RegionHeld3
namespace Go.Proofs.YtkdalgdckgmccaaGreatDoor
open Go.RowKit

/-- The letters of a wire that falls with each single one of its nails. -/
def tiedF : Nat → List Nat → List Nat
  | 0, l => l
  | f + 1, l => if l.length < 2 then l else commL (tiedF f (l.take (l.length / 2))) (tiedF f (l.drop (l.length / 2)))
theorem commL_length (a b : List Nat) : (commL a b).length ≤ 2 * (a.length + b.length) := by
  have := redL_length (a ++ (b ++ (invL a ++ invL b)))
  unfold commL
  simp only [List.length_append, invL_length] at this
  omega
theorem commL_word {a b : List Nat} (ha : IsWord a) (hb : IsWord b) : IsWord (commL a b) := red_word (ha.append (hb.append ((invL_word ha).append (invL_word hb))))
theorem IsWord.take {l : List Nat} (h : IsWord l) (k : Nat) : IsWord (l.take k) := h.of_sub fun _ hx => List.mem_of_mem_take hx
theorem IsWord.drop {l : List Nat} (h : IsWord l) (k : Nat) : IsWord (l.drop k) := h.of_sub fun _ hx => List.mem_of_mem_drop hx
theorem tiedF_word : ∀ (f : Nat) {l : List Nat}, IsWord l → IsWord (tiedF f l)
  | 0, _, h => h
  | f + 1, l, h => by
    unfold tiedF
    split
    · exact h
    · exact commL_word (tiedF_word f (h.take _)) (tiedF_word f (h.drop _))
theorem tiedF_length : ∀ (f d : Nat) (l : List Nat), l.length ≤ 2 ^ d → (tiedF f l).length ≤ 4 ^ d
  | 0, d, l, h => by
    have : 2 ^ d ≤ 4 ^ d := Nat.pow_le_pow_left (by omega) d
    unfold tiedF; omega
  | f + 1, d, l, h => by
    unfold tiedF
    split
    · have : 2 ^ d ≤ 4 ^ d := Nat.pow_le_pow_left (by omega) d
      omega
    · cases d with
      | zero => simp at h; omega
      | succ d =>
        rw [Nat.pow_succ] at h
        have h1 := tiedF_length f d (l.take (l.length / 2)) (by rw [List.length_take]; omega)
        have h2 := tiedF_length f d (l.drop (l.length / 2)) (by rw [List.length_drop]; omega)
        have h3 := commL_length (tiedF f (l.take (l.length / 2))) (tiedF f (l.drop (l.length / 2)))
        rw [Nat.pow_succ]
        omega

/-- A wire to be read. -/
def RetRead (l : List Nat) (w : World) (e : Ending) (w' : World) : Prop := ∃ A c, e = .returned (.slice A l.length c) ∧ Sl .u8 w' A l.length l ∧ (∀ b off, A = some ⟨b, off, none⟩ → w.heap.size ≤ b) ∧ Below w.heap.size w w'
/-- A wire of its own reads as its letters, and lies in a new block. -/
theorem wire_sl' {B : Nat} {l : List Nat} {w : World} {v : Value} (h : Wire B l w v) (hl : l.length ≤ 4611686018427387904) : ∃ A c, v = .slice A l.length c ∧ Sl .u8 w A l.length l ∧ ∀ b off, A = some ⟨b, off, none⟩ → B ≤ b := by
  obtain ⟨A, c, e, hS⟩ := wire_sl h hl
  refine ⟨A, c, e, hS, fun b off eA => ?_⟩
  subst eA
  exact (h.own.lt b (by rw [e]; rfl)).1

theorem letters_extract (s : ByteArray) (a b : Nat) : lettersOf (s.extract a b) = ((lettersOf s).take b).drop a := by
  unfold lettersOf
  rw [ByteArray.data_extract, Array.toList_extract, List.extract_eq_take_drop, List.map_take, List.map_drop, List.drop_take]

theorem sl_converted (s : ByteArray) (w : World) (cap : Nat) (e : TypeId) (fr : Nat × Nat) (hs : s.size ≤ 4611686018427387904) : Sl .u8 (w.alloc (.cells (bytesRow s cap) e fr)) (some ⟨w.heap.size, 0, none⟩) s.size (lettersOf s) := by
  refine ⟨lettersOf_length s, hs, fun _ => ⟨w.heap.size, 0, rfl, by simp, fun i hi => ?_⟩⟩
  rw [Nat.zero_add, cell_of_row _ w.heap.size i (bytesRow s cap) e fr (heap_alloc_new w _)]
  exact bytesRow_get s cap i hi

theorem read_back {l : List Nat} {w w' : World} {A : Option Addr} {n c : Nat} (h : Sl .u8 w' A n l) (hf : ∀ b off, A = some ⟨b, off, none⟩ → w.heap.size ≤ b) (hb : Below w.heap.size w w') : RetRead l w (.returned (.slice A n c)) w' := by
  have := h.len
  subst this
  exact ⟨A, c, rfl, h, hf, hb⟩

set_option maxRecDepth 100000 in
theorem tied_small (s : ByteArray) (w : World) (hf : s.size < 2) :
    Calls Tryz.prog 51 #[.string s] w (RetRead (lettersOf s) w) := by
  have hconv := run_bytes_of_string w 9 44 5 s Tryz.underlying9 Tryz.underlying44 Tryz.underlying5 (P := Tryz.prog)
  have hS := sl_converted s w.drew (grownCap w s.size 0 5) 5 ((bytesRow s (grownCap w s.size 0 5)).size, (bytesRow s (grownCap w s.size 0 5)).size + 1) (by omega)
  have HS := Lib.hid hS
  clear hS
  go_enter Tryz.func51, Tryz.ntmps51
  go_wp2
  go_ret
  exact read_back HS.out (fun b off e => by injection e with e; injection e with e1 e2; subst e1; exact Nat.le_refl _) ((Below.refl _ w).drew.alloc (Nat.le_refl _) _)

set_option maxRecDepth 100000 in
set_option maxHeartbeats 1000000 in
theorem tied_any : ∀ (f : Nat) (s : ByteArray) (w : World), s.size ≤ f + 1 → s.size ≤ 32 → IsWord (lettersOf s) →
    Calls Tryz.prog 51 #[.string s] w (RetRead (tiedF f (lettersOf s)) w) := by
  intro f
  induction f with
  | zero =>
    intro s w hf h32 hword
    exact tied_small s w (by omega)
  | succ f ih =>
    intro s w hf h32 hword
    have hlen := lettersOf_length s
    rcases Nat.lt_or_ge s.size 2 with h2 | h2
    · have e : tiedF (f + 1) (lettersOf s) = lettersOf s := by
        unfold tiedF
        rw [if_pos (by omega)]
      rw [e]
      exact tied_small s w h2
    · have e : tiedF (f + 1) (lettersOf s) = commL (tiedF f (lettersOf (s.extract 0 (s.size / 2)))) (tiedF f (lettersOf (s.extract (s.size / 2) s.size))) := by
        unfold tiedF
        rw [if_neg (by omega), letters_extract, letters_extract, List.drop_zero, List.take_of_length_le (i := s.size) (by omega), hlen]
        cases f <;> rfl
      have hw1 : IsWord (lettersOf (s.extract 0 (s.size / 2))) := by rw [letters_extract]; exact (hword.take _).drop _
      have hw2 : IsWord (lettersOf (s.extract (s.size / 2) s.size)) := by rw [letters_extract]; exact (hword.take _).drop _
      have H1 := Lib.hid (fun W => ih (s.extract 0 (s.size / 2)) W (by rw [ByteArray.size_extract]; omega) (by rw [ByteArray.size_extract]; omega) hw1)
      have H2 := Lib.hid (fun W => ih (s.extract (s.size / 2) s.size) W (by rw [ByteArray.size_extract]; omega) (by rw [ByteArray.size_extract]; omega) hw2)
      have hl1 : (tiedF f (lettersOf (s.extract 0 (s.size / 2)))).length ≤ 1000000 := by
        have := tiedF_length f 5 (lettersOf (s.extract 0 (s.size / 2))) (by rw [lettersOf_length, ByteArray.size_extract]; omega)
        omega
      have hl2 : (tiedF f (lettersOf (s.extract (s.size / 2) s.size))).length ≤ 1000000 := by
        have := tiedF_length f 5 (lettersOf (s.extract (s.size / 2) s.size)) (by rw [lettersOf_length, ByteArray.size_extract]; omega)
        omega
      have E := Lib.hid e
      have Hw1 := Lib.hid (tiedF_word f hw1)
      have Hw2 := Lib.hid (tiedF_word f hw2)
      generalize tiedF f (lettersOf (s.extract 0 (s.size / 2))) = l1 at *
      generalize tiedF f (lettersOf (s.extract (s.size / 2) s.size)) = l2 at *
      obtain ⟨n1, hn1⟩ : ∃ n1, l1.length = n1 := ⟨_, rfl⟩
      obtain ⟨n2, hn2⟩ : ∃ n2, l2.length = n2 := ⟨_, rfl⟩
      obtain ⟨half, hh⟩ : ∃ half, s.size / 2 = half := ⟨_, rfl⟩
      rw [hh] at H1 H2
      have hh1 : half ≤ s.size := by omega
      have htd : Int.tdiv (s.size : Int) 2 = (half : Nat) := by rw [Int.tdiv_eq_ediv_of_nonneg (by omega)]; omega
      have hs1 := fun W => run_slice_string_h (P := Tryz.prog) (w := W) (t := 9) (s := s) Tryz.underlying9 .i64 (half : Nat) (by omega) (by omega)
      have hs2 := fun W => run_slice_string_l (P := Tryz.prog) (w := W) (t := 9) (s := s) Tryz.underlying9 .i64 (half : Nat) (by omega) (by omega)
      rw [Int.toNat_natCast] at hs1 hs2
      generalize s.extract 0 half = sa at *
      generalize s.extract half s.size = sb at *
      have Hh := Lib.hid hh
      clear hh
      have Hc := Lib.hid (fun (A1 A2 : Option Addr) (c1 c2 : Nat) W (h1 : Sl .u8 W A1 l1.length l1) (h2 : Sl .u8 W A2 l2.length l2) => commutator_any A1 A2 n1 n2 c1 c2 l1 l2 W (hn1 ▸ h1) (hn2 ▸ h2) Hw1.out Hw2.out (by omega) (by omega))
      clear hlen ih hword hw1 hw2 e
      go_enter Tryz.func51, Tryz.ntmps51
      go_wp2_with fail
      go_region_with (first
        | (go_at_call 51; refine (H1.out _).mono ?_; clear H1; rintro e w1 ⟨A1, c1, rfl, hS1, _, hb1⟩)
        | (go_at_call 51; refine (H2.out _).mono ?_; clear H2; rintro e w2 ⟨A2, c2, rfl, hS2, _, hb2⟩)
        | (go_at_call 71; refine (Hc.out A1 A2 c1 c2 w2 (hS1.below hb2) hS2).mono ?_; clear Hc; rintro e w3 ⟨v3, rfl, hW3, hb3⟩))
      all_goals
        have hcl := commL_length l1 l2
        obtain ⟨A3, c3, rfl, hS3, hf3⟩ := wire_sl' hW3 (by omega)
        have hbel : Below w.heap.size w w3 := ((Below.refl w.heap.size w).drew.trans hb1).trans ((hb2.mono hb1.size).trans (hb3.mono (Nat.le_trans hb1.size hb2.size)))
        go_wp2
        go_ret
        rw [E.out]
        exact read_back hS3 (fun b off e => Nat.le_trans (Nat.le_trans hb1.size hb2.size) (hf3 b off e)) hbel

end Go.Proofs.YtkdalgdckgmccaaGreatDoor
