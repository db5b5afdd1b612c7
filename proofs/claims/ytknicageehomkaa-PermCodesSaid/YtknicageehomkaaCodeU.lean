/-
  Contracts of the calls of PermCodes, each with one form for all inputs.
-/
import Derived.Test.YtknicageehomkaaRaw
import Derived.Test.YtknicageehomkaaUnr
import Derived.Test.YtknicageehomkaaPBaxters
import Derived.Deep.DeepCutAuto
namespace Go.Proofs.Ytknicageehomkaa
open Go.RowKit

/-- What Rank answers. -/
def RankIs (p : List Nat) (r h : Int) : Prop := (p.length ≤ 20 ∧ r = (rankTo (codeL p) p.length : Nat) ∧ h = 0) ∨ (20 < p.length ∧ r = 0 ∧ h = 2)
def RetRankU (p : List Nat) (w : World) (e : Ending) (w' : World) : Prop := ∃ r h : Int, e = .returned (.tuple #[.int .i64 r, .int .i64 h]) ∧ RankIs p r h ∧ Below w.heap.size w w'
theorem rank_uni (b off n cap : Nat) (p : List Nat) (w : World) (hS : Sl .i64 w (some ⟨b, off, none⟩) n p) (hp : IsPerm p) (hn : n ≤ 60) (h0 : 0 < n) :
    Calls Try.prog 27 #[.slice (some ⟨b, off, none⟩) n cap] w (RetRankU p w) := by
  have hl := hS.len
  by_cases h : n ≤ 20
  · refine (rank_any b off n cap p w hS hp h h0).mono fun e w' ⟨h1, h2⟩ => ⟨_, _, h1, .inl ⟨by omega, by rw [hl], rfl⟩, h2⟩
  · exact (rank_long b off n cap p w hS hp hn (by omega)).mono fun e w' ⟨h1, h2⟩ => ⟨_, _, h1, .inr ⟨by omega, rfl, rfl⟩, h2⟩

theorem blk_sl {w : World} {g : Nat} {l : List Nat} {n : Nat} (h : Blk w g 3 (cellsOf .i64 l)) (hl : l.length = n) (hn : n ≤ 60) : Sl .i64 w (some ⟨g, 0, none⟩) n l := Sl.of_blk h hl (by omega)

/-- Whether one of the first j is out of its bounds. -/
def badTo (zs : List Int) : Nat → Bool
  | 0 => false
  | j + 1 => badTo zs j || (decide (zs.getD j 0 < 0) || decide ((zs.length : Int) ≤ zs.getD j 0 + j))
theorem badTo_false {zs : List Int} : ∀ k, k ≤ zs.length → (badTo zs k = false ↔ ∀ j, j < k → goodAt zs j)
  | 0, _ => ⟨fun _ j h => absurd h (by omega), fun _ => rfl⟩
  | k + 1, h => by
    have ih := badTo_false (zs := zs) k (by omega)
    unfold badTo
    simp only [Bool.or_eq_false_iff, decide_eq_false_iff_not]
    constructor
    · rintro ⟨h1, h2, h3⟩ j hj
      by_cases e : j = k
      · subst e; exact ⟨by omega, by omega⟩
      · exact ih.1 h1 j (by omega)
    · intro hg
      have := hg k (by omega)
      unfold goodAt at this
      exact ⟨ih.2 fun j hj => hg j (by omega), by omega, by omega⟩
/-- Which error FromCode owes. -/
def wantOf (zs : List Int) : Int := if zs.length < 1 ∨ 60 < zs.length then 20 else if badTo zs zs.length = true then 1 else 0

def RetFromU (zs : List Int) (w : World) (e : Ending) (w' : World) : Prop :=
  ∃ A m c, e = .returned (.tuple #[.slice A m c, .int .i64 (wantOf zs)]) ∧ ((wantOf zs ≠ 0 ∧ m = 0) ∨ (wantOf zs = 0 ∧ AllGood zs ∧ 1 ≤ zs.length ∧ zs.length ≤ 60 ∧ Sl .i64 w' A m (outL (natsOf zs)))) ∧ Below w.heap.size w w'
theorem fromCode_uni (A : Option Addr) (n cap : Nat) (zs : List Int) (w : World) (hZ : Zl w A n zs) :
    Calls Try.prog 38 #[.slice A n cap] w (RetFromU zs w) := by
  have hl := hZ.1
  by_cases h : n < 1 ∨ 60 < n
  · refine (fromCode_len A n cap w h hZ.2.1).mono fun e w' ⟨h1, h2⟩ => ?_
    have hw : wantOf zs = 20 := if_pos (by rw [hl]; exact h)
    subst h2
    exact ⟨none, 0, 0, by rw [hw]; exact h1, .inl ⟨by rw [hw]; decide, rfl⟩, Below.refl _ _⟩
  · refine (fromCode_any A n cap zs w hZ (by omega) (by omega)).mono fun e w' h' => ?_
    have hb := badTo_false (zs := zs) zs.length (Nat.le_refl _)
    have hn : ¬ (zs.length < 1 ∨ 60 < zs.length) := by rw [hl]; exact h
    rcases h' with ⟨hg, g, he, hgs, hblk, hbel⟩ | ⟨hg, he, hw'⟩
    · have hw : wantOf zs = 0 := by
        unfold wantOf
        rw [if_neg hn, if_neg (by rw [hb.2 hg]; decide)]
      refine ⟨_, _, _, by rw [hw]; exact he, .inr ⟨hw, hg, by omega, by omega, ?_⟩, hbel⟩
      exact Sl.of_blk hblk rfl (by rw [outL_length, natsOf_length]; omega)
    · have hw : wantOf zs = 1 := by
        unfold wantOf
        rw [if_neg hn, if_pos (by
          cases hq : badTo zs zs.length with
          | true => rfl
          | false => exact (hg (hb.1 hq)).elim)]
      subst hw'
      exact ⟨none, 0, 0, by rw [hw]; exact he, .inl ⟨by rw [hw]; decide, rfl⟩, Below.refl _ _⟩

/-- Whether there is a permutation of n elements with a rank. -/
def okB (n r : Int) : Bool := decide (1 ≤ n) && decide (n ≤ 20) && decide (0 ≤ r) && decide (r < (facN n.toNat : Nat))
theorem okB_true {n r : Int} (h : okB n r = true) : 1 ≤ n ∧ n ≤ 20 ∧ 0 ≤ r ∧ r < (facN n.toNat : Nat) := by
  simp only [okB, Bool.and_eq_true, decide_eq_true_eq] at h
  exact ⟨h.1.1.1, h.1.1.2, h.1.2, h.2⟩
theorem okB_of {n r : Int} (h : 1 ≤ n ∧ n ≤ 20 ∧ 0 ≤ r ∧ r < (facN n.toNat : Nat)) : okB n r = true := by
  simp only [okB, Bool.and_eq_true, decide_eq_true_eq]
  exact ⟨⟨⟨h.1, h.2.1⟩, h.2.2.1⟩, h.2.2.2⟩
theorem okB_not {n r : Int} (h : ¬ (1 ≤ n ∧ n ≤ 20 ∧ 0 ≤ r ∧ r < (facN n.toNat : Nat))) : okB n r = false := by
  cases e : okB n r with
  | false => rfl
  | true => exact (h (okB_true e)).elim
def RetUnrU (n r : Int) (w : World) (e : Ending) (w' : World) : Prop :=
  ∃ A m c e25, e = .returned (.tuple #[.slice A m c, .int .i64 e25]) ∧ ((okB n r = true ∧ e25 = 0 ∧ Sl .i64 w' A m (outL (digL n.toNat r.toNat))) ∨ (okB n r = false ∧ e25 = 1 ∧ m = 0)) ∧ Below w.heap.size w w'
theorem unrank_uni (n r : Int) (w : World) (hr : r ≤ 9223372036854775807) :
    Calls Try.prog 40 #[.int .i64 n, .int .i64 r] w (RetUnrU n r w) := by
  by_cases h : n < 1 ∨ 20 < n ∨ r < 0
  · refine (unrank_no n r w h).mono fun e w' ⟨h1, h2⟩ => ?_
    subst h2
    exact ⟨none, 0, 0, 1, h1, .inr ⟨okB_not (by omega), rfl, rfl⟩, Below.refl _ _⟩
  · obtain ⟨a, rfl⟩ : ∃ a : Nat, n = a := ⟨n.toNat, by omega⟩
    obtain ⟨b, rfl⟩ : ∃ b : Nat, r = b := ⟨r.toNat, by omega⟩
    refine (unrank_any a b w (by omega) (by omega) (by omega)).mono fun e w' h' => ?_
    rcases h' with ⟨h1, g, he, hg, hblk, hbel⟩ | ⟨h1, he, hbel⟩
    · refine ⟨_, _, _, 0, he, .inl ⟨okB_of ⟨by omega, by omega, by omega, by simpa using h1⟩, rfl, ?_⟩, hbel⟩
      exact Sl.of_blk hblk rfl (by rw [outL_length, digL_length]; omega)
    · exact ⟨none, 0, 0, 1, he, .inr ⟨okB_not (by simp; omega), rfl, rfl⟩, hbel⟩

end Go.Proofs.Ytknicageehomkaa
