/-
  The walk of PermDeep.
-/
import Derived.Test.YtgdemenokjghoaaDeepM
import Derived.Deep.DeepCutAuto
namespace Go.Proofs.Ytgdemenokjghoaa
open Go.RowKit

theorem ITIn.leaf (w : World) (lo hi d : Nat) : ITIn w lo hi (d + 1) leafI (.slice none 0 0) (.slice none 0 0) :=
  ⟨⟨none, 0, rfl, ⟨Nat.le_refl _, by omega⟩, (fun z h => by cases h), fun h => absurd h (by show ¬ 0 < 0; omega)⟩, none, 0, rfl, fun h => absurd h (by show ¬ 0 < 0; omega)⟩

/-- A chain grows. -/
theorem ITIn.chain {w w' : World} {lo j : Nat} {sv : Value} (h : ITIn w lo w.heap.size (j + 1) (chainI j) (.slice none 0 0) sv) (hlo : lo ≤ w.heap.size) (hk : ∀ g, lo ≤ g → g < w.heap.size → w'.heap[g]? = w.heap[g]?)
    (hb : Blk w' w.heap.size 64 #[.int .i64 0, .slice none 0 0, .slice none 0 0, .int .i64 (chainI j).kind, .slice none 0 0, sv]) : ITIn w' lo w'.heap.size (j + 1 + 1) (chainI (j + 1)) (.slice none 0 0) (.slice (some ⟨w.heap.size, 0, none⟩) 2 2) := by
  have hs := hb.lt
  refine ⟨⟨none, 0, rfl, ⟨Nat.le_refl _, by omega⟩, (fun z h => by cases h), fun h => absurd h (by show ¬ 0 < 0; omega)⟩, some ⟨w.heap.size, 0, none⟩, 2, rfl, fun _ => ⟨w.heap.size, 0, rfl, hlo, hs, fun i hi => ?_⟩⟩
  have hi2 : i < 2 := hi
  match i, hi2 with
  | 0, _ => exact ⟨.slice none 0 0, .slice none 0 0, hb.cell _, hb.cell _, hb.cell _, ITIn.leaf _ _ _ _⟩
  | 1, _ => exact ⟨.slice none 0 0, sv, hb.cell _, hb.cell _, hb.cell _, ITIn.mono (Nat.le_refl _) (Nat.le_of_lt hs) _ _ _ _ (ITIn.keep (w := w) hk _ _ _ _ h)⟩

/-- A chain in a simple node. -/
theorem ITIn.sim {w w' : World} {lo j gp : Nat} {sv : Value} (h : ITIn w lo w.heap.size (j + 1) (chainI j) (.slice none 0 0) sv) (hlo : lo ≤ gp) (hgp : gp < w'.heap.size) (hg : w.heap.size ≤ gp) (hk : ∀ g, lo ≤ g → g < w.heap.size → w'.heap[g]? = w.heap[g]?)
    (hp : Blk w' gp 3 #[.int .i64 1, .int .i64 3, .int .i64 0, .int .i64 2])
    (hb : Blk w' (gp + 1) 64 #[.int .i64 0, .slice none 0 0, .slice none 0 0, .int .i64 (chainI j).kind, .slice none 0 0, sv, .int .i64 0, .slice none 0 0, .slice none 0 0, .int .i64 0, .slice none 0 0, .slice none 0 0]) :
    ITIn w' lo w'.heap.size (j + 1 + 1) (simI j) (.slice (some ⟨gp, 0, none⟩) 4 4) (.slice (some ⟨gp + 1, 0, none⟩) 4 4) := by
  have hs := hb.lt
  refine ⟨⟨some ⟨gp, 0, none⟩, 4, rfl, ⟨Nat.le_refl _, by omega⟩, fun z hz => ?_, fun _ => ⟨gp, 0, rfl, hlo, hgp, fun i hi => ?_⟩⟩, some ⟨gp + 1, 0, none⟩, 4, rfl, fun _ => ⟨gp + 1, 0, rfl, by omega, hs, fun i hi => ?_⟩⟩
  · have hz : z ∈ [(1 : Int), 3, 0, 2] := hz
    simp at hz
    omega
  · have hi4 : i < 4 := hi
    match i, hi4 with
    | 0, _ => exact hp.cell _
    | 1, _ => exact hp.cell _
    | 2, _ => exact hp.cell _
    | 3, _ => exact hp.cell _
  · have hi4 : i < 4 := hi
    match i, hi4 with
    | 0, _ => exact ⟨.slice none 0 0, .slice none 0 0, hb.cell _, hb.cell _, hb.cell _, ITIn.leaf _ _ _ _⟩
    | 1, _ => exact ⟨.slice none 0 0, sv, hb.cell _, hb.cell _, hb.cell _, ITIn.mono (Nat.le_refl _) (by omega) _ _ _ _ (ITIn.keep (w := w) hk _ _ _ _ h)⟩
    | 2, _ => exact ⟨.slice none 0 0, .slice none 0 0, hb.cell _, hb.cell _, hb.cell _, ITIn.leaf _ _ _ _⟩
    | 3, _ => exact ⟨.slice none 0 0, .slice none 0 0, hb.cell _, hb.cell _, hb.cell _, ITIn.leaf _ _ _ _⟩

theorem give_old {lo a b g : Nat} (h1 : lo ≤ a) (h2 : a ≤ b) (h : Old (fun g => lo ≤ g ∧ g < a) a b g) : lo ≤ g ∧ g < b := by
  rcases h with ⟨h3, h4⟩ | ⟨h3, h4⟩
  · exact ⟨h3, by omega⟩
  · exact ⟨by omega, h4⟩
theorem fil_none {o : Option (List Nat)} {w w' : World} {e : Ending} (ho : fillOut o = none) (h : RetFil o w e w') : Below w.heap.size w w' ∧ e = .returned (.tuple #[.slice none 0 0, .int .i64 21]) := by
  obtain ⟨hb, ⟨-, e⟩ | ⟨l, g, c, e1, -⟩⟩ := h
  · exact ⟨hb, e⟩
  · rw [ho] at e1; cases e1
theorem fil_some {o : Option (List Nat)} {l : List Nat} {w w' : World} {e : Ending} (ho : fillOut o = some l) (h : RetFil o w e w') : Below w.heap.size w w' ∧ ∃ g c, e = .returned (.tuple #[.slice (some ⟨g, 0, none⟩) l.length c, .int .i64 0]) ∧ Sl .i64 w' (some ⟨g, 0, none⟩) l.length l := by
  obtain ⟨hb, ⟨e, -⟩ | ⟨l', g, c, e1, e2, -, h⟩⟩ := h
  · rw [ho] at e; cases e
  · rw [ho] at e1
    injection e1 with e1
    subst e1
    exact ⟨hb, g, c, e2, h⟩

theorem rfil_some {d : Nat} {t : IT} {l : List Nat} {w w' : World} {e : Ending} (hl : leafN d t ≤ 60) (hc : canonB d t = true) (hf : fillR d t = l) (h0 : 0 < l.length) (h60 : l.length ≤ 60) (h : RetRFil d t w e w') :
    Below w.heap.size w w' ∧ ∃ g c, e = .returned (.tuple #[.slice (some ⟨g, 0, none⟩) l.length c, .bool true]) ∧ Sl .i64 w' (some ⟨g, 0, none⟩) l.length l ∧ l.length ≤ c ∧ c ≤ 9223372036854775807 := by
  obtain ⟨hb, ⟨hx, -⟩ | ⟨-, v, e1, hown⟩⟩ := h
  · exact absurd ⟨hl, hc⟩ hx
  · rw [hf] at hown
    obtain ⟨g, c, rfl⟩ := own_pos hown h0
    have := own_cap hown
    exact ⟨hb, g, c, e1, own_sl hown (by omega), this⟩

set_option maxRecDepth 100000 in
set_option maxHeartbeats 8000000 in
theorem permDeep_walk (z : Int) (sb : Bool) (w : World) :
    Calls Try.prog 8 #[.int .i64 z, .bool sb] w fun e w' => e = .returned (.bool true) ∧ Below w.heap.size w w' := by
  obtain ⟨u, hu⟩ := wrap_u64 z
  have e2 : (u : Int) % (8 : Int) = ((u % 8 : Nat) : Int) := by simp
  have e6 : (u : Int).tmod (8 : Int) = ((u % 8 : Nat) : Int) := by rw [Int.tmod_eq_emod_of_nonneg (by omega)]; exact e2
  obtain ⟨r, hr⟩ : ∃ r, r = u % 8 := ⟨_, rfl⟩
  have hr8 : r < 8 := by rw [hr]; exact Nat.mod_lt _ (by omega)
  rw [← hr] at e2 e6
  clear hr
  have e5 : IntKind.i64.wrap ((r : Nat) : Int) = (r : Nat) := IntWalk.i64_in _ (by omega)
  go_enter Try.func8, Try.ntmps8
  go_upto_region 1 with fail
  go_cut [5] (fun s wx => s = .int .i64 (56 + r : Nat) ∧ wx = w)
  case first =>
    go_wp2_with fail
    go_meet
    exact ⟨by go_num, rfl⟩
  case rest =>
    obtain ⟨rfl, rfl⟩ := hcut
    obtain ⟨w0, hw0⟩ : ∃ w0 : World, w0 = wc := ⟨_, rfl⟩
    subst hw0
    obtain ⟨M, hM⟩ : ∃ M, M = 56 + r := ⟨_, rfl⟩
    rw [← hM]
    have HM := Lib.hid hM
    have hM64 : M < 64 := by omega
    have hM56 : 56 ≤ M := by omega
    have Hr8 := Lib.hid hr8
    clear hM e2 e6 e5 hu hr8
    have hb1 := below_new' w0 (.cells #[.int .i64 0, .slice none 0 0, .slice none 0 0] 64)
    have hbx1 := Blk.new w0 64 #[.int .i64 0, .slice none 0 0, .slice none 0 0]
    have hs1 := size_new' w0 (.cells #[.int .i64 0, .slice none 0 0, .slice none 0 0] 64)
    go_upto_region 3 with fail
    generalize w0.alloc (.cells #[.int .i64 0, .slice none 0 0, .slice none 0 0] 64) = W1 at *
    have Hb1 := Lib.hid hb1
    have Hbx1 := Lib.hid hbx1
    have hs1' : w0.heap.size + 1 ≤ W1.heap.size := by omega
    clear hb1 hbx1 hs1
    go_wp2_with fail
    go_loopw [7] (fun iv wr => ∃ (i : Nat) (sv : Value), 1 ≤ i ∧ i ≤ M ∧ iv = .int .i64 i ∧ w0.heap.size + 1 ≤ wr.heap.size ∧ Blk wr w0.heap.size 64 #[.int .i64 (chainI (i - 1)).kind, .slice none 0 0, sv] ∧ ITIn wr (w0.heap.size + 1) wr.heap.size (i - 1 + 1) (chainI (i - 1)) (.slice none 0 0) sv ∧ Below w0.heap.size w0 wr) (fun iv _ => M - (intOf iv).toNat)
    case atStart => exact ⟨1, _, Nat.le_refl _, by omega, rfl, hs1', Hbx1.out, ITIn.leaf _ _ _ _, Hb1.out⟩
    case round =>
      obtain ⟨i, sv, hi1, hiM, rfl, hsz, hblk, hit, hbel⟩ := hrel
      obtain ⟨r0, r1, r2, f0, f1, f2⟩ := blk_three hblk
      have HM := HM
      by_cases hlt : i < M
      · have hki : (i : Int) < (M : Int) := by omega
        obtain ⟨c, hc⟩ : ∃ c, c = i % 2 := ⟨_, rfl⟩
        have hc1 : c ≤ 1 := by omega
        have m1 : (i : Int) % 2 = (c : Int) := by omega
        have m2 : (i : Int).tmod 2 = (c : Int) := by rw [Int.tmod_eq_emod_of_nonneg (by omega)]; exact m1
        have hK : (chainI (i + 1 - 1)).kind = 1 + (c : Int) := by
          rw [show i + 1 - 1 = i - 1 + 1 by omega]
          show (1 : Int) + ((i - 1 + 1) % 2 : Nat) = _
          rw [show i - 1 + 1 = i by omega, ← hc]
        have hWb := Blk.new wr 64 #[.int .i64 0, .slice none 0 0, .slice none 0 0, .int .i64 (chainI (i - 1)).kind, .slice none 0 0, sv]
        have hWs := size_new' wr (.cells #[.int .i64 0, .slice none 0 0, .slice none 0 0, .int .i64 (chainI (i - 1)).kind, .slice none 0 0, sv] 64)
        have hWx := Blk.more' hblk (.cells #[.int .i64 0, .slice none 0 0, .slice none 0 0, .int .i64 (chainI (i - 1)).kind, .slice none 0 0, sv] 64)
        have hWl := hbel.alloc hbel.size (.cells #[.int .i64 0, .slice none 0 0, .slice none 0 0, .int .i64 (chainI (i - 1)).kind, .slice none 0 0, sv] 64)
        have hWk := fun g (hg : g < wr.heap.size) => Below.heap_alloc wr (.cells #[.int .i64 0, .slice none 0 0, .slice none 0 0, .int .i64 (chainI (i - 1)).kind, .slice none 0 0, sv] 64) g hg
        obtain ⟨x0, x1, x2, y0, y1, y2⟩ := blk_three hWx
        obtain ⟨WA, hWA⟩ : ∃ WA, WA = wr.alloc (.cells #[.int .i64 0, .slice none 0 0, .slice none 0 0, .int .i64 (chainI (i - 1)).kind, .slice none 0 0, sv] 64) := ⟨_, rfl⟩
        rw [← hWA] at hWb hWs hWx hWl hWk
        have hset := ((hWx.store 0 (.int .i64 (1 + (c : Int)))).store 1 (.slice none 0 0)).store 2 (.slice (some ⟨wr.heap.size, 0, none⟩) 2 2)
        have hset' : Blk (((WA.setCell ⟨w0.heap.size, 0, none⟩ (.int .i64 (1 + (c : Int)))).setCell ⟨w0.heap.size, 1, none⟩ (.slice none 0 0)).setCell ⟨w0.heap.size, 2, none⟩ (.slice (some ⟨wr.heap.size, 0, none⟩) 2 2)) w0.heap.size 64 #[.int .i64 (1 + (c : Int)), .slice none 0 0, .slice (some ⟨wr.heap.size, 0, none⟩) 2 2] := by simpa using hset
        have hkf : ∀ g, g ≠ w0.heap.size → (((WA.setCell ⟨w0.heap.size, 0, none⟩ (.int .i64 (1 + (c : Int)))).setCell ⟨w0.heap.size, 1, none⟩ (.slice none 0 0)).setCell ⟨w0.heap.size, 2, none⟩ (.slice (some ⟨wr.heap.size, 0, none⟩) 2 2)).heap[g]? = WA.heap[g]? := fun g hg =>
          (Below.heap_setCell _ _ _ _ hg).trans ((Below.heap_setCell _ _ _ _ hg).trans (Below.heap_setCell _ _ _ _ hg))
        have hzf : (((WA.setCell ⟨w0.heap.size, 0, none⟩ (.int .i64 (1 + (c : Int)))).setCell ⟨w0.heap.size, 1, none⟩ (.slice none 0 0)).setCell ⟨w0.heap.size, 2, none⟩ (.slice (some ⟨wr.heap.size, 0, none⟩) 2 2)).heap.size = WA.heap.size := by simp [World.setCell]
        have hbelf := ((hWl.setCell (p := ⟨w0.heap.size, 0, none⟩) (Nat.le_refl _) (.int .i64 (1 + (c : Int)))).setCell (p := ⟨w0.heap.size, 1, none⟩) (Nat.le_refl _) (.slice none 0 0)).setCell (p := ⟨w0.heap.size, 2, none⟩) (Nat.le_refl _) (.slice (some ⟨wr.heap.size, 0, none⟩) 2 2)
        have hitf := hit.chain hsz (w' := ((WA.setCell ⟨w0.heap.size, 0, none⟩ (.int .i64 (1 + (c : Int)))).setCell ⟨w0.heap.size, 1, none⟩ (.slice none 0 0)).setCell ⟨w0.heap.size, 2, none⟩ (.slice (some ⟨wr.heap.size, 0, none⟩) 2 2)) (fun g h1 h2 => (hkf g (by omega)).trans (hWk g h2)) ((hkf _ (by omega)).trans hWb)
        rw [show i - 1 + 1 + 1 = i + 1 - 1 + 1 by omega, show i - 1 + 1 = i + 1 - 1 by omega] at hitf
        have HK := Lib.hid hK
        have Hset := Lib.hid hset'
        have Hbelf := Lib.hid hbelf
        have Hitf := Lib.hid hitf
        have Hszf : Hid (w0.heap.size + 1 ≤ (((WA.setCell ⟨w0.heap.size, 0, none⟩ (.int .i64 (1 + (c : Int)))).setCell ⟨w0.heap.size, 1, none⟩ (.slice none 0 0)).setCell ⟨w0.heap.size, 2, none⟩ (.slice (some ⟨wr.heap.size, 0, none⟩) 2 2)).heap.size) := by show _ ≤ _; rw [hzf, hWs]; omega
        rw [hWA] at Hset Hbelf Hitf Hszf
        clear hset hset' hkf hzf hbelf hitf hWb hWs hWx hWl hWk hWA hK hit hblk hbel hc
        generalize (chainI (i - 1)).kind = KI at *
        go_wp2_with fail
        go_roundw
        case rel => exact ⟨i + 1, _, by omega, by omega, by go_num, Hszf.out, (by rw [HK.out]; exact Hset.out), Hitf.out, Hbelf.out⟩
        case measure => simp [intOf]; omega
      · obtain rfl : i = M := by omega
        have hki : ¬ (i : Int) < (i : Int) := by omega
        have Hblk := Lib.hid hblk
        have Hit := Lib.hid hit
        have Hbel := Lib.hid hbel
        have hsl := hbel.size
        clear hblk hit hbel
        go_upto_if 34 with fail
        clear r0 r1 r2 f0 f1 f2
        have Hdn := Lib.hid (show deepN r sb = 56 + r + if sb then 3 else 0 from rfl)
        go_cut [5] (fun mv wx => mv = .int .i64 (deepN r sb : Nat) ∧ (∃ pa pn pc A n c, Blk wx w0.heap.size 64 #[.int .i64 (deepT r sb).kind, .slice pa pn pc, .slice A n c] ∧ ITIn wx (w0.heap.size + 1) wx.heap.size 70 (deepT r sb) (.slice pa pn pc) (.slice A n c)) ∧ Below w0.heap.size w0 wx)
        case first =>
          cases sb with
          | false =>
            obtain ⟨A, n, c, rfl⟩ : ∃ A n c, sv = .slice A n c := by
              obtain ⟨_, _, _, A, n, c, _, e⟩ := Hit.out.slices
              exact ⟨A, n, c, e⟩
            have e1 : Hid (deepN r false = i) := by show _ = _; rw [HM.out]; rfl
            have e2 : Hid (i - 1 = 55 + r) := by show _ = _; have := HM.out; omega
            go_wp2_with fail
            go_meet
            refine ⟨by rw [e1.out], ⟨none, 0, 0, A, n, c, ?_, ?_⟩, Hbel.out⟩
            · have := Hblk.out
              rw [e2.out] at this
              exact this
            · have := Hit.out
              rw [e2.out] at this
              exact ITIn.fuel _ _ _ _ _ (by have := Hr8.out; omega) this
          | true =>
            have e1 : Hid (deepN r true = i + 3) := by show _ = _; rw [HM.out]; rfl
            have e2 : Hid (i - 1 = 55 + r) := by show _ = _; have := HM.out; omega
            have hblk := Hblk.out
            have hit := Hit.out
            have hbel := Hbel.out
            obtain ⟨WA, hWA⟩ : ∃ WA, WA = wr.alloc (.cells #[.int .i64 1, .int .i64 3, .int .i64 0, .int .i64 2] 3) := ⟨_, rfl⟩
            have a1 : Blk WA wr.heap.size 3 #[.int .i64 1, .int .i64 3, .int .i64 0, .int .i64 2] := by rw [hWA]; exact Blk.new wr _ _
            have a2 : WA.heap.size = wr.heap.size + 1 := by rw [hWA]; exact size_new' wr _
            have a3 : Blk WA w0.heap.size 64 #[.int .i64 (chainI (i - 1)).kind, .slice none 0 0, sv] := by rw [hWA]; exact Blk.more' hblk _
            have a4 : Below w0.heap.size w0 WA := by rw [hWA]; exact hbel.alloc hbel.size _
            have a5 : ∀ g, g < wr.heap.size → WA.heap[g]? = wr.heap[g]? := fun g hg => by rw [hWA]; exact Below.heap_alloc wr _ g hg
            obtain ⟨WB, hWB⟩ : ∃ WB, WB = WA.alloc (.cells #[.int .i64 0, .slice none 0 0, .slice none 0 0, .int .i64 (chainI (i - 1)).kind, .slice none 0 0, sv, .int .i64 0, .slice none 0 0, .slice none 0 0, .int .i64 0, .slice none 0 0, .slice none 0 0] 64) := ⟨_, rfl⟩
            have b1 : Blk WB (wr.heap.size + 1) 64 #[.int .i64 0, .slice none 0 0, .slice none 0 0, .int .i64 (chainI (i - 1)).kind, .slice none 0 0, sv, .int .i64 0, .slice none 0 0, .slice none 0 0, .int .i64 0, .slice none 0 0, .slice none 0 0] := by rw [hWB, ← a2]; exact Blk.new WA _ _
            have b2 : WB.heap.size = wr.heap.size + 1 + 1 := by rw [hWB, size_new', a2]
            have b3 : Blk WB w0.heap.size 64 #[.int .i64 (chainI (i - 1)).kind, .slice none 0 0, sv] := by rw [hWB]; exact Blk.more' a3 _
            have b4 : Below w0.heap.size w0 WB := by rw [hWB]; exact a4.alloc a4.size _
            have b5 : ∀ g, g < wr.heap.size → WB.heap[g]? = wr.heap[g]? := fun g hg => by rw [hWB]; exact (Below.heap_alloc WA _ g (by omega)).trans (a5 g hg)
            have b6 : Blk WB wr.heap.size 3 #[.int .i64 1, .int .i64 3, .int .i64 0, .int .i64 2] := by rw [hWB]; exact Blk.more' a1 _
            obtain ⟨r0, r1, r2, -, -, -⟩ := blk_three hblk
            obtain ⟨x0, x1, x2, y0, y1, y2⟩ := blk_three b3
            obtain ⟨p0, p1, p2, -, -, -⟩ := blk_three a3
            have hset := ((b3.store 0 (.int .i64 3)).store 1 (.slice (some ⟨wr.heap.size, 0, none⟩) 4 4)).store 2 (.slice (some ⟨wr.heap.size + 1, 0, none⟩) 4 4)
            have hset' : Blk (((WB.setCell ⟨w0.heap.size, 0, none⟩ (.int .i64 3)).setCell ⟨w0.heap.size, 1, none⟩ (.slice (some ⟨wr.heap.size, 0, none⟩) 4 4)).setCell ⟨w0.heap.size, 2, none⟩ (.slice (some ⟨wr.heap.size + 1, 0, none⟩) 4 4)) w0.heap.size 64 #[.int .i64 3, .slice (some ⟨wr.heap.size, 0, none⟩) 4 4, .slice (some ⟨wr.heap.size + 1, 0, none⟩) 4 4] := by simpa using hset
            have hkf : ∀ g, g ≠ w0.heap.size → (((WB.setCell ⟨w0.heap.size, 0, none⟩ (.int .i64 3)).setCell ⟨w0.heap.size, 1, none⟩ (.slice (some ⟨wr.heap.size, 0, none⟩) 4 4)).setCell ⟨w0.heap.size, 2, none⟩ (.slice (some ⟨wr.heap.size + 1, 0, none⟩) 4 4)).heap[g]? = WB.heap[g]? := fun g hg =>
              (Below.heap_setCell _ _ _ _ hg).trans ((Below.heap_setCell _ _ _ _ hg).trans (Below.heap_setCell _ _ _ _ hg))
            have hzf : (((WB.setCell ⟨w0.heap.size, 0, none⟩ (.int .i64 3)).setCell ⟨w0.heap.size, 1, none⟩ (.slice (some ⟨wr.heap.size, 0, none⟩) 4 4)).setCell ⟨w0.heap.size, 2, none⟩ (.slice (some ⟨wr.heap.size + 1, 0, none⟩) 4 4)).heap.size = WB.heap.size := by simp [World.setCell]
            have hbelf := ((b4.setCell (p := ⟨w0.heap.size, 0, none⟩) (Nat.le_refl _) (.int .i64 3)).setCell (p := ⟨w0.heap.size, 1, none⟩) (Nat.le_refl _) (.slice (some ⟨wr.heap.size, 0, none⟩) 4 4)).setCell (p := ⟨w0.heap.size, 2, none⟩) (Nat.le_refl _) (.slice (some ⟨wr.heap.size + 1, 0, none⟩) 4 4)
            have hitf := hit.sim (gp := wr.heap.size) (w' := ((WB.setCell ⟨w0.heap.size, 0, none⟩ (.int .i64 3)).setCell ⟨w0.heap.size, 1, none⟩ (.slice (some ⟨wr.heap.size, 0, none⟩) 4 4)).setCell ⟨w0.heap.size, 2, none⟩ (.slice (some ⟨wr.heap.size + 1, 0, none⟩) 4 4)) hsz (by rw [hzf]; omega) (Nat.le_refl _) (fun g h1 h2 => (hkf g (by omega)).trans (b5 g h2)) ((hkf _ (by omega)).trans b6) ((hkf _ (by omega)).trans b1)
            rw [e2.out] at hitf
            have hitf := ITIn.fuel _ 70 _ _ _ (by have := Hr8.out; omega) hitf
            have Hset := Lib.hid hset'
            have Hbelf := Lib.hid hbelf
            have Hitf := Lib.hid hitf
            rw [hWB, hWA] at Hset Hbelf Hitf x0 x1 x2 y0 y1 y2
            rw [hWA] at p0 p1 p2
            clear hset hset' hkf hzf hbelf hitf a1 a2 a3 a4 a5 b1 b2 b3 b4 b5 b6 hWA hWB hit hblk hbel
            generalize (chainI (i - 1)).kind = KI at *
            go_wp2_with fail
            go_meet
            exact ⟨by rw [e1.out]; go_num, ⟨_, _, _, _, _, _, Hset.out, Hitf.out⟩, Hbelf.out⟩
        case rest =>
          obtain ⟨rfl, ⟨pa, pn, pc, A, n, c, hblk, hit⟩, hbel⟩ := hcut
          obtain ⟨hleaf, hnode, hlev⟩ := deep_size r sb Hr8.out
          have Hgive := Lib.hid (give_any _ 70 (deepT r sb) pa pn pc A n c wc hit.toS (fun g hg => hg.2) hnode)
          have hlo : w0.heap.size + 1 ≤ wc.heap.size := hblk.lt
          have Hok := Lib.hid (deep_ok r sb)
          have Hno := Lib.hid (deep_no r sb Hr8.out)
          have Htree := Lib.hid (deep_tree r sb)
          have Hlen := Lib.hid (deepP_length r sb)
          have Hnon := Lib.hid (deep_non r sb)
          have Hrf := Lib.hid (fun (W : World) (h : ITIn W (w0.heap.size + 1) wc.heap.size 70 (deepT r sb) (.slice pa pn pc) (.slice A n c)) (h2 : wc.heap.size ≤ W.heap.size) => rfillAll_any 70 (deepT r sb) pa pn pc A n c _ _ W h h2 hnode hlev)
          have Hfl := Lib.hid (fun (W : World) (pa' : Option Addr) (pn' pc' : Nat) (A' : Option Addr) (n' c' : Nat) (h : ITIn W (w0.heap.size + 1) W.heap.size 70 (deepT r sb) (.slice pa' pn' pc') (.slice A' n' c')) => fillAll_any 70 (deepT r sb) pa' pn' pc' A' n' c' _ _ W h (Nat.le_refl _))
          have Heq := Lib.hid (fun (S1 S2 : Nat → Prop) (W : World) (pa' : Option Addr) (pn' pc' : Nat) (A' : Option Addr) (n' c' : Nat) (h1 : ITS W S1 70 (deepT r sb) (.slice pa' pn' pc') (.slice A' n' c')) (h2 : ITS W S2 70 (deepT r sb) (.slice pa pn pc) (.slice A n c)) (h3 : ∀ g, S1 g → g < W.heap.size) (h4 : ∀ g, S2 g → g < W.heap.size) => equal_any S1 S2 70 (deepT r sb) pa' pn' pc' A' n' c' pa pn pc A n c W h1 h2 h3 h4 Hnon.out hnode)
          have Hblk2 := Lib.hid hblk
          have Hit2 := Lib.hid hit
          have Hbel2 := Lib.hid hbel
          have HN0 : Hid (0 < deepN r sb) := by show 0 < _; unfold deepN; omega
          have hdN : deepN r sb ≤ 66 := by unfold deepN; have := Hr8.out; cases sb <;> simp <;> omega
          obtain ⟨r0, r1, r2, -, -, -⟩ := blk_three hblk
          clear hblk hit hbel hleaf hnode hlev
          unfold RetGive at Hgive
          have Hleaf := Lib.hid (deep_size r sb Hr8.out).1
          generalize deepT r sb = T at *
          generalize deepP r sb = P at *
          generalize deepN r sb = N at *
          by_cases hN : N ≤ 60
          · have hN1 : ¬ (60 : Int) < (N : Int) := by omega
            obtain ⟨hcan, hfr, hfn, hperm⟩ := Hok.out hN
            have hlen := Hlen.out
            have h56 : 0 < P.length := by rw [hlen]; exact HN0.out
            have HP : Hid (fillOut (fillN 70 T 0).2 = some P) := by
              show _ = _
              rw [hfn]
              exact if_pos (by omega)
            have htree := Htree.out hN
            have hkind := toIT_kind' P.length (treeF P.length P) h56
            rw [htree] at hkind
            have hlow := low_treeF P.length P.length P h56 (by omega)
            have Hlf := Lib.hid (show leafN 70 T ≤ 60 by rw [Hleaf.out]; exact hN)
            have Hcan := Lib.hid hcan
            have Hfr := Lib.hid hfr
            have Hperm := Lib.hid hperm
            have H60 := Lib.hid (show P.length ≤ 60 by omega)
            have H0 := Lib.hid h56
            have Hkind := Lib.hid hkind
            have Hlow := Lib.hid hlow
            have Htr := Lib.hid htree
            clear hcan hfr hfn hperm hlen h56 htree hkind hlow
            generalize hKT : T.kind = KT at *
            go_upto_region 14 with (first
              | (go_at_call 55; refine Hgive.out.mono ?_; rintro e w2 ⟨pa', pn', pc', A', n', c', rfl, hT2, hb2⟩; have Hfl2 := Lib.hid (Hfl.out w2 pa' pn' pc' A' n' c' (ITS.toIn _ _ _ _ (ITS.keep (fun g hg => ⟨give_old hlo hb2.size hg, rfl⟩) _ _ _ _ hT2))); have Hb2 := Lib.hid hb2; clear hT2 hb2)
              | (go_at_call 54; refine Hfl2.out.mono ?_; intro e w3 hret; obtain ⟨hb3, g3, c3, rfl, hS3⟩ := fil_some HP.out hret; have Hb3 := Lib.hid (Hb2.out.trans (hb3.mono Hb2.out.size)); have HS3 := Lib.hid hS3; clear hret hb3 hS3))
            clear r0 r1 r2 Hgive Hfl Hfl2 Hb2 HP Hno Hok
            have Hblk3 := Lib.hid (Hblk2.out.below Hb3.out Hblk2.out.lt)
            have Hit3 := Lib.hid (ITIn.keep (w' := w3) (fun g k1 k2 => Hb3.out.block g k2) _ _ _ _ Hit2.out)
            obtain ⟨r0, r1, r2, -, -, -⟩ := blk_three Hblk3.out
            have Hrf3 := Lib.hid (Hrf.out w3 Hit3.out Hb3.out.size)
            go_upto_region 15 with (go_at_call 56; refine Hrf3.out.mono ?_; intro e w4 hret; obtain ⟨hb4, g4, c4, rfl, hS4, hc4⟩ := rfil_some Hlf.out Hcan.out Hfr.out H0.out H60.out hret; have Hb4 := Lib.hid hb4; have HS4 := Lib.hid hS4; clear hret hb4 hS4)
            clear r0 r1 r2 Hrf Hrf3 Hlf Hcan Hfr Hleaf
            have Hbl := Lib.hid (blocksT_any g4 0 P.length c4 P w4 HS4.out Hperm.out H60.out H0.out hc4.1 hc4.2)
            unfold RetBlocksT at Hbl
            rw [← Hkind.out] at Hbl
            go_upto_region 16 with (go_at_call 29; refine Hbl.out.mono ?_; rintro e w5 ⟨pa5, pn5, pc5, A5, n5, c5, rfl, hT5, hb5⟩; have HT5 := Lib.hid hT5; have Hb5 := Lib.hid hb5; clear hT5 hb5)
            clear Hbl Hperm
            have hIT5 := HT5.out.it _ _ _ _ Hlow.out
            rw [Htr.out] at hIT5
            have hIT5 := ITIn.fuel _ 70 _ _ _ (by have := H60.out; omega) hIT5
            obtain ⟨W6, hW6⟩ : ∃ W6, W6 = w5.alloc (.cells #[.int .i64 KT, .slice pa5 pn5 pc5, .slice A5 n5 c5] 43) := ⟨_, rfl⟩
            have a1 : Blk W6 w5.heap.size 43 #[.int .i64 KT, .slice pa5 pn5 pc5, .slice A5 n5 c5] := by rw [hW6]; exact Blk.new w5 _ _
            have a2 : Below w5.heap.size w5 W6 := by rw [hW6]; exact below_new' w5 _
            have b4 : Below w4.heap.size w4 W6 := Hb5.out.trans (a2.mono Hb5.out.size)
            have b3 : Below w3.heap.size w3 W6 := Hb4.out.trans (b4.mono Hb4.out.size)
            have bc : Below wc.heap.size wc W6 := Hb3.out.trans (b3.mono Hb3.out.size)
            have b0 := Hbel2.out.trans (bc.mono Hbel2.out.size)
            have hblk6 : Blk W6 w0.heap.size 64 #[.int .i64 KT, .slice pa pn pc, .slice A n c] := Hblk2.out.below bc Hblk2.out.lt
            have Hsame := Lib.hid (same_yes (some ⟨g3, 0, none⟩) (some ⟨g4, 0, none⟩) P.length P.length P P W6 (HS3.out.below b3) (HS4.out.below b4) rfl c3 c4)
            have Heq7 : Hid (∀ q, Calls Try.prog 52 #[.agg #[.int .i64 KT, .slice pa5 pn5 pc5, .slice A5 n5 c5], .agg #[.int .i64 KT, .slice pa pn pc, .slice A n c]] (W6.drewN q) fun e w' => e = .returned (.bool true) ∧ Below (W6.drewN q).heap.size (W6.drewN q) w') := fun q =>
              Heq.out (fun g => w4.heap.size ≤ g ∧ g < w5.heap.size) (fun g => w0.heap.size + 1 ≤ g ∧ g < wc.heap.size) (W6.drewN q) pa5 pn5 pc5 A5 n5 c5
                (ITS.keep (w := w5) (fun g hg => ⟨hg, a2.block g hg.2⟩) _ _ _ _ (ITIn.toS _ _ _ _ hIT5))
                (ITS.keep (w := wc) (fun g hg => ⟨hg, bc.block g hg.2⟩) _ _ _ _ (ITIn.toS _ _ _ _ Hit2.out))
                (fun g hg => Nat.lt_of_lt_of_le hg.2 a2.size) (fun g hg => Nat.lt_of_lt_of_le hg.2 bc.size)
            rw [← hW6]
            have Hb0 := Lib.hid b0
            have Ha1 := Lib.hid a1
            have Hblk6 := Lib.hid hblk6
            obtain ⟨x0, x1, x2, -, -, -⟩ := blk_three a1
            obtain ⟨y0, y1, y2, -, -, -⟩ := blk_three hblk6
            clear hW6 a1 a2 b4 b3 bc b0 hblk6 hIT5 Heq HT5 Hb5 Hlow Htr HS3 HS4 Hb4 Hb3 Hblk3 Hit3 Hblk2 Hit2 Hbel2 Hkind
            go_wp2_with (first
              | (go_at_call 33; refine Hsame.out.mono ?_; rintro e w7 ⟨rfl, q, rfl⟩; have He7 := Lib.hid (Heq7.out q))
              | (go_at_call 52; refine He7.out.mono ?_; rintro e w8 ⟨rfl, hb8⟩; have Hb8 := Lib.hid (below_drewN Hb0.out q); have Hb9 := Lib.hid (Hb8.out.trans (hb8.mono Hb8.out.size)); clear hb8)
              | (go_at_call 23; refine (awake_any _).mono ?_; rintro e w9 ⟨rfl, hb9⟩))
            go_ret
            exact ⟨rfl, Hb9.out.trans (hb9.mono Hb9.out.size)⟩
          · have hN1 : (60 : Int) < (N : Int) := by omega
            have hno := Hno.out (by omega)
            have HN := Lib.hid hno
            generalize hKT : T.kind = KT at *
            go_wp2_with (first
              | (go_at_call 55; refine Hgive.out.mono ?_; rintro e w2 ⟨pa', pn', pc', A', n', c', rfl, hT2, hb2⟩; have Hfl2 := Lib.hid (Hfl.out w2 pa' pn' pc' A' n' c' (ITS.toIn _ _ _ _ (ITS.keep (fun g hg => ⟨give_old hlo hb2.size hg, rfl⟩) _ _ _ _ hT2))); have Hb2 := Lib.hid (Hbel2.out.trans (hb2.mono Hbel2.out.size)); clear hT2 hb2)
              | (go_at_call 54; refine Hfl2.out.mono ?_; intro e w3 hret; obtain ⟨hb3, rfl⟩ := fil_none HN.out hret; have Hb3 := Lib.hid (Hb2.out.trans (hb3.mono Hb2.out.size)); clear hret hb3)
              | (go_at_call 23; refine (awake_any _).mono ?_; rintro e w4 ⟨rfl, hb4⟩))
            go_ret
            exact ⟨rfl, Hb3.out.trans (hb4.mono Hb3.out.size)⟩

end Go.Proofs.Ytgdemenokjghoaa
