/-
  The walks of code and Code.
-/
import Derived.Test.YtgdaidmkcgblbaaInv2
import Derived.Maps.AppendAt
namespace Go.Proofs.Ytgdaidmkcgblbaa
open Go.RowKit Go.Shelf

attribute [local go_sem] Oper.semAt_some

/-- For each value how many pairs begin with it. -/
def cntL (p : List Nat) (pre : List (Nat × Nat)) : List Nat := (List.range p.length).map fun v => pre.countP fun x => decide (p.getD x.1 0 = v)

theorem cntL_length (p : List Nat) (pre : List (Nat × Nat)) : (cntL p pre).length = p.length := by simp [cntL]
theorem cntL_get (p : List Nat) (pre : List (Nat × Nat)) (v : Nat) (h : v < p.length) : (cntL p pre).getD v 0 = pre.countP fun x => decide (p.getD x.1 0 = v) := by
  simp [cntL, List.getD_eq_getElem?_getD, h]
theorem cntL_le (p : List Nat) (pre : List (Nat × Nat)) (v : Nat) (h : v < p.length) : (cntL p pre).getD v 0 ≤ pre.length := by
  rw [cntL_get p pre v h]; exact List.countP_le_length
theorem cntL_nil (p : List Nat) : cntL p [] = List.replicate p.length 0 := by
  unfold cntL
  apply List.ext_getElem
  · simp
  · intro i h1 h2; simp
theorem cntL_snoc (p : List Nat) (pre : List (Nat × Nat)) (x : Nat × Nat) : cntL p (pre ++ [x]) = (cntL p pre).set (p.getD x.1 0) ((cntL p pre).getD (p.getD x.1 0) 0 + 1) := by
  apply List.ext_getElem
  · simp [cntL]
  · intro i h1 h2
    have hi : i < p.length := by simpa [cntL] using h1
    rw [List.getElem_set]
    by_cases e : p.getD x.1 0 = i
    · rw [if_pos e, e, cntL_get p pre i hi]
      simp [cntL, List.countP_append]
      simpa [List.getD_eq_getElem?_getD] using e
    · rw [if_neg e]
      have e' : ¬ (p[x.1]?.getD 0 = i) := by simpa [List.getD_eq_getElem?_getD] using e
      simp [cntL, List.countP_append, e']

/-- The code: for each position how many later positions hold less. -/
def codeL (p : List Nat) : List Nat := (List.range p.length).map fun i => (rowOf p i (List.range' (i + 1) (p.length - (i + 1)))).length
theorem codeL_length (p : List Nat) : (codeL p).length = p.length := by simp [codeL]
theorem codeL_get (p : List Nat) (i : Nat) (h : i < p.length) : (codeL p).getD i 0 = (rowOf p i (List.range' (i + 1) (p.length - (i + 1)))).length := by
  simp [codeL, List.getD_eq_getElem?_getD, h]

theorem countP_rowOf {p : List Nat} (hp : IsPerm p) (i k : Nat) (hi : i < p.length) (hk : k < p.length) (ks : List Nat) :
    (rowOf p k ks).countP (fun x => decide (p.getD x.1 0 = p.getD i 0)) = if k = i then (rowOf p k ks).length else 0 := by
  have h1 : ∀ x ∈ rowOf p k ks, x.1 = k := by
    intro x hx
    unfold rowOf at hx
    obtain ⟨y, _, rfl⟩ := List.mem_map.1 hx
    rfl
  by_cases e : k = i
  · rw [if_pos e, List.countP_eq_length]
    intro x hx
    rw [h1 x hx, e]; simp
  · rw [if_neg e, List.countP_eq_zero]
    intro x hx
    rw [h1 x hx]
    simp only [decide_eq_true_eq]
    exact fun h => e (hp.inj hk hi h)
theorem countP_invTo {p : List Nat} (hp : IsPerm p) (i : Nat) (hi : i < p.length) : ∀ k, k ≤ p.length →
    (invTo p k).countP (fun x => decide (p.getD x.1 0 = p.getD i 0)) = if i < k then (rowOf p i (List.range' (i + 1) (p.length - (i + 1)))).length else 0
  | 0, _ => by simp [invTo]
  | k + 1, hk => by
    rw [invTo_succ, List.countP_append, countP_invTo hp i hi k (by omega), countP_rowOf hp i k hi (by omega)]
    by_cases e : k = i
    · subst e; simp
    · rw [if_neg e]
      by_cases e2 : i < k
      · rw [if_pos e2, if_pos (by omega)]; omega
      · rw [if_neg e2, if_neg (by omega)]
theorem codeL_of {p : List Nat} (hp : IsPerm p) (i : Nat) (hi : i < p.length) : (cntL p (invTo p p.length)).getD (p.getD i 0) 0 = (codeL p).getD i 0 := by
  rw [cntL_get _ _ _ (hp.lt hi), countP_invTo hp i hi p.length (Nat.le_refl _), if_pos hi, codeL_get p i hi]

theorem info_int : (Try.prog.info? 3).map (fun i => (i.zero, i.size, i.bytes)) = some (some (.int .i64 0), 1, 8) := by kernel_rfl

/-- A row of numbers in a block of its own. -/
def RetRow (l : List Nat) (w : World) (e : Ending) (w' : World) : Prop :=
  ∃ g, e = .returned (.slice (some ⟨g, 0, none⟩) l.length l.length) ∧ w.heap.size ≤ g ∧ Blk w' g 3 (cellsOf .i64 l) ∧ Below w.heap.size w w'

theorem ownFrom_blk {β : Type} (B g : Nat) (t : TypeId) (f : β → Array Value) (h : g < B) : OwnFrom B (fun (s : β) W => Blk W g t (f s)) := fun _ _ _ _ hs hg hr =>
  (hg.block g (Array.getElem?_eq_some_iff.1 hs).1 (fun e => by have := (hr g e.symm).1; omega)).trans hs

theorem Blk.more {w : World} {g : Nat} {t : TypeId} {cs : Array Value} (h : Blk w g t cs) (o : Obj) : Blk (w.alloc o) g t cs := (Below.heap_alloc w o g h.lt).trans h

set_option maxRecDepth 100000 in
set_option maxHeartbeats 2000000 in
theorem code_any (b off n cap : Nat) (p : List Nat) (w : World) (hS : Sl .i64 w (some ⟨b, off, none⟩) n p) (hp : IsPerm p) (hn : n ≤ 60) (h0 : 0 < n) :
    Calls Try.prog 72 #[.slice (some ⟨b, off, none⟩) n cap] w (RetRow (codeL p) w) := by
  obtain ⟨pb, hpb, hrow⟩ := rowAt_of hS h0
  have hl := hS.len
  subst hl
  have hbl : b < w.heap.size := (Array.getElem?_eq_some_iff.1 hpb).1
  have hmk : ∀ W : World, (Instr.makeSlice 22 (.int .i64 (p.length : Nat)) (.int .i64 (p.length : Nat))).run Try.prog W = .ok (.slice (some ⟨W.heap.size, 0, none⟩) p.length p.length) (W.alloc (.cells (cellsOf .i64 (List.replicate p.length 0)) 3)) :=
    fun W => run_makeInts Try.underlying22 info_int (by omega) .i64 .i64 p.length (by omega) W
  refine (callsIn_wide (n := 100)).1 ?_
  refine callsIn_of_wp_marks Try.func72 rfl trivial ?_ rfl
  simp only [Try.ntmps72, List.size_toArray, List.length_cons, List.length_nil, Nat.reduceAdd, Nat.reduceSub, Array.replicate_succ, Array.replicate_zero, List.push_toArray, List.append_toArray, List.nil_append, List.cons_append]
  gi_wp2_with (refine ⟨trivial, ?_⟩; gi_at_call 71; refine (inversions_in Fence.wide 99 trivial rfl _ _ _ _).mono ?_; rintro e w' ⟨rfl, rfl⟩)
  have bG := ((Blk.new w 3 (cellsOf .i64 (List.replicate p.length 0))).more (.cells #[.slice (some ⟨w.heap.size, 0, none⟩) p.length p.length] 22)).more (.cells #[.slice (some ⟨b, off, none⟩) p.length cap] 22)
  have bL := (Boxed.new (w.alloc (.cells (cellsOf .i64 (List.replicate p.length 0)) 3)) 22 (.slice (some ⟨w.heap.size, 0, none⟩) p.length p.length)).alloc (.cells #[.slice (some ⟨b, off, none⟩) p.length cap] 22)
  have bP := Boxed.new ((w.alloc (.cells (cellsOf .i64 (List.replicate p.length 0)) 3)).alloc (.cells #[.slice (some ⟨w.heap.size, 0, none⟩) p.length p.length] 22)) 22 (.slice (some ⟨b, off, none⟩) p.length cap)
  have hB0 : Below w.heap.size w (((w.alloc (.cells (cellsOf .i64 (List.replicate p.length 0)) 3)).alloc (.cells #[.slice (some ⟨w.heap.size, 0, none⟩) p.length p.length] 22)).alloc (.cells #[.slice (some ⟨b, off, none⟩) p.length cap] 22)) := (((Below.refl _ w).alloc (Nat.le_refl _) _).alloc (by simp) _).alloc (by simp; omega) _
  simp only [World.size_alloc] at bL bP
  have hsz : (((w.alloc (.cells (cellsOf .i64 (List.replicate p.length 0)) 3)).alloc (.cells #[.slice (some ⟨w.heap.size, 0, none⟩) p.length p.length] 22)).alloc (.cells #[.slice (some ⟨b, off, none⟩) p.length cap] 22)).heap.size = w.heap.size + 3 := by simp
  generalize ((w.alloc (.cells (cellsOf .i64 (List.replicate p.length 0)) 3)).alloc (.cells #[.slice (some ⟨w.heap.size, 0, none⟩) p.length p.length] 22)).alloc (.cells #[.slice (some ⟨b, off, none⟩) p.length cap] 22) = Wi at *
  have hb1 : Wi.heap[b]? = some pb := (hB0.block b hbl).trans hpb
  refine range_on rfl (by omega) (gf := 99) (lb := #[.pointer (some ⟨w.heap.size + 1 + 1, 0, none⟩)]) rfl trivial (enters_of Try.func99 (by kernel_rfl) rfl)
    (inversions_gives Fence.wide rfl 99 trivial trivial trivial rfl (by omega) (w.heap.size + 1 + 1) b off cap p (by omega) pb hrow (KeepTwo b (w.heap.size + 1 + 1)) (fun _ _ h => h) Wi bP hb1)
    KeepTwo.trans (fun X l _ o' h _ _ => KeepTwo.put (B := Wi.heap.size) (by omega) (by omega) X l o' h) (Below.refl _ _) (fun _ => rfl)
    (fun ys X => (Blk X w.heap.size 3 (cellsOf .i64 (cntL p (ys.map posOf))) ∧ X.heap[w.heap.size + 1]? = some (.cells #[.slice (some ⟨w.heap.size, 0, none⟩) p.length p.length] 22 (0, 0)) ∧ X.heap[b]? = some pb) ∧ Below w.heap.size w X)
    (OwnFrom.and (OwnFrom.and (ownFrom_blk _ _ _ _ (by omega)) (OwnFrom.and (ownFrom_block _ _ _ (by omega)) (ownFrom_block _ _ _ (by omega)))) (ownFrom_below (Nat.le_refl _) (by omega)))
    ⟨⟨by rw [List.map_nil, cntL_nil]; exact bG, bL, hb1⟩, hB0⟩
    (fun x => { tmps := #[.slice (some ⟨b, off, none⟩) p.length cap, undef, .slice none 0 0, .pointer (some ⟨w.heap.size + 1, 0, none⟩), .int .i64 ((p.getD x.1.1 0 : Nat) : Int), undef, undef, undef, .slice (some ⟨b, off, none⟩) p.length cap, .int .i64 (p.length : Nat), .slice (some ⟨w.heap.size, 0, none⟩) p.length p.length, .slice (some ⟨b, off, none⟩) p.length cap, .func (.func 99) #[] #[.pointer (some ⟨w.heap.size + 1 + 1, 0, none⟩)], .int .i64 ((p.getD x.1.1 0 : Nat) : Int), .int .i64 ((p.getD x.2.1 0 : Nat) : Int), undef, undef, undef, undef, undef, undef, undef, undef, undef, undef, undef, undef, undef, undef, undef, undef, undef, undef, undef, undef, undef, undef, undef, undef, undef], defers := [] }) ?assign ?body ?done
  case assign =>
    intro l x X K hK
    unfold encI
    dsimp only at hK ⊢
    generalize p.getD x.1.1 0 = u at hK ⊢
    generalize p.getD x.2.1 0 = u' at hK ⊢
    gi_wp2
    exact hK
  case body =>
    rintro l ys x X ⟨⟨e1, e2, e3⟩, hB⟩ hlen
    have cL := Boxed.cell e2
    have hv : p.getD x.1.1 0 < p.length := hp.lt x.1.2
    have hc := e1.num (p.getD x.1.1 0) (by rw [cntL_length]; exact hv)
    have hf := e1.free (p.getD x.1.1 0)
    have hle := cntL_le p (ys.map posOf) _ hv
    rw [List.length_map] at hle
    have hnn : p.length * p.length ≤ 60 * 60 := Nat.mul_le_mul hn hn
    have Hs := Lib.hid (cntL_snoc p (ys.map posOf) (posOf x))
    have hput := e1.put (p.getD x.1.1 0) ((cntL p (ys.map posOf)).getD (p.getD x.1.1 0) 0 + 1) (z := (((cntL p (ys.map posOf)).getD (p.getD x.1.1 0) 0 : Nat) : Int) + 1) (by omega)
    have Hput := Lib.hid hput
    clear hput e1
    generalize hcc : (cntL p (ys.map posOf)).getD (p.getD x.1.1 0) 0 = c at *
    have Hcc := Lib.hid hcc
    clear hcc
    generalize hvv : p.getD x.1.1 0 = v at *
    have Hvv := Lib.hid hvv
    clear hvv
    gi_wp2
    refine ⟨(Rest.refl _ X).setCell (by omega) _ _, ⟨Below.heap_setCell _ _ _ _ (by simp; omega), Below.heap_setCell _ _ _ _ (by simp; omega)⟩, ⟨⟨?_, (Below.heap_setCell _ _ _ _ (by simp)).trans e2, (Below.heap_setCell _ _ _ _ (by simp; omega)).trans e3⟩, hB.setCell (Nat.le_refl _) _⟩⟩
    rw [List.map_append, List.map_cons, List.map_nil, Hs.out]
    rw [show p.getD (posOf x).1 0 = v from Hvv.out, Hcc.out]
    exact Hput.out
  case done =>
    rintro D ys X hD hys ⟨⟨e1, e2, e3⟩, hB⟩ hK
    rw [hys] at e1
    have Hcode := Lib.hid (fun i hi => codeL_of hp i hi)
    clear hys hb1 bG bL bP
    have cL := Boxed.cell e2
    have hDl : D < X.heap.size := (Array.getElem?_eq_some_iff.1 hK).1
    have hwX : w.heap.size < X.heap.size := e1.lt
    have hbX : b < X.heap.size := (Array.getElem?_eq_some_iff.1 e3).1
    gi_wp2
    gi_loopw [26] (fun i wr => ∃ k : Nat, k ≤ p.length ∧ i = .int .i64 k ∧ ∃ xs : List Nat, Blk wr X.heap.size 3 (cellsOf .i64 xs) ∧ xs.length = p.length ∧ xs.take k = (codeL p).take k ∧ Below X.heap.size X wr) (fun i _ => p.length - (intOf i).toNat)
    case atStart => exact ⟨0, Nat.zero_le _, rfl, List.replicate p.length 0, Blk.new _ _ _, by simp, rfl, (Below.refl _ _).alloc (Nat.le_refl _) _⟩
    case round =>
      obtain ⟨k, hk, rfl, xs, hblk, hxl, htk, hbel⟩ := hrel
      have Hxl := Lib.hid hxl
      have Htk := Lib.hid htk
      clear hxl htk hmk
      have e1' : Blk wr w.heap.size 3 _ := (hbel.block _ hwX).trans e1
      have e2' := (hbel.block _ (Boxed.lt e2)).trans e2
      have cL' := Boxed.cell e2'
      by_cases hlt : k < p.length
      · have hcp := hrow wr ((hbel.block b hbX).trans e3) k hlt
        have hv : p.getD k 0 < p.length := hp.lt hlt
        have hc := e1'.num (p.getD k 0) (by rw [cntL_length]; exact hv)
        have ho := hblk.num k (by rw [Hxl.out]; exact hlt)
        have hf := hblk.free k
        have Hput := Lib.hid (hblk.put k ((cntL p (invTo p p.length)).getD (p.getD k 0) 0) rfl)
        have Hck := Lib.hid (Hcode.out k hlt)
        generalize (cntL p (invTo p p.length)).getD (p.getD k 0) 0 = c at *
        generalize hvv : p.getD k 0 = v at *
        clear hvv
        generalize xs.getD k 0 = y at *
        gi_wp2
        go_roundw
        case rel =>
          refine ⟨k + 1, by omega, by go_num, xs.set k c, Hput.out, by rw [List.length_set]; exact Hxl.out, ?_, hbel.setCell (Nat.le_refl _) _⟩
          rw [take_snoc _ k (by rw [List.length_set, Hxl.out]; exact hlt), List.take_set_of_le (Nat.le_refl k), Htk.out, take_snoc (codeL p) k (by rw [codeL_length]; exact hlt), getD_set _ _ _ _ (by rw [Hxl.out]; exact hlt), if_pos rfl, ← Hck.out]
        case measure => simp [intOf]; omega
      · obtain rfl : k = p.length := by omega
        have hx : xs = codeL p := by
          have := Htk.out
          rwa [List.take_of_length_le (by rw [Hxl.out]; exact Nat.le_refl _), List.take_of_length_le (by rw [codeL_length]; exact Nat.le_refl _)] at this
        have Hx := Lib.hid hx
        clear hx
        have hK' := (hbel.block D hDl).trans hK
        gi_wp2
        refine ⟨by simp, .inl ⟨_, _, rfl, run_takeDeferred hK', ?_⟩⟩
        refine ⟨_, results_tmp rfl _ _ _, X.heap.size, by rw [codeL_length]; rfl, by omega, ?_, (hB.trans (hbel.mono hB.size)).trans (belowK_b (w := w) (Nat.le_refl _) wr D _ _ (by omega) hK' rfl rfl)⟩
        have := hblk
        rw [Hx.out] at this
        exact (World.putObj_heap_other (by omega)).trans this

end Go.Proofs.Ytgdaidmkcgblbaa
