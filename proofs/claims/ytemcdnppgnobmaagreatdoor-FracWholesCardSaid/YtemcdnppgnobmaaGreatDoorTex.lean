/-
  The walk of the exchange of a table of one row of three ones, modulo one prime.
-/
import Derived.Test.YtemcdnppgnobmaaGreatDoorShf
set_option linter.unusedVariables false
namespace Go.Proofs.YtemcdnppgnobmaaGreatDoor
open Go.RowKit

/-- But for new blocks nothing has turned but g and h. -/
structure But (g h : Nat) (w w' : World) : Prop where
  os : w'.os = w.os
  tape : w'.tape = w.tape
  output : w'.output = w.output
  size : w.heap.size ≤ w'.heap.size
  block : ∀ k, k < w.heap.size → k ≠ g → k ≠ h → w'.heap[k]? = w.heap[k]?
theorem But.refl (g h : Nat) (w : World) : But g h w w := ⟨rfl, rfl, rfl, Nat.le_refl _, fun _ _ _ _ => rfl⟩
theorem But.and {g h : Nat} {w w' w'' : World} (hb : But g h w w') (hk : Below w'.heap.size w' w'') : But g h w w'' :=
  ⟨hk.os.trans hb.os, hk.tape.trans hb.tape, hk.output.trans hb.output, Nat.le_trans hb.size hk.size, fun k hk1 h1 h2 => (hk.block k (Nat.lt_of_lt_of_le hk1 hb.size)).trans (hb.block k hk1 h1 h2)⟩
theorem But.only {g h k : Nat} {w w' w'' : World} (hb : But g h w w') (ho : Only k w' w'') (hk : k = g ∨ k = h ∨ w.heap.size ≤ k) : But g h w w'' :=
  ⟨ho.os.trans hb.os, ho.tape.trans hb.tape, ho.output.trans hb.output, by rw [ho.size]; exact hb.size, fun j hj h1 h2 => (ho.block j (by rcases hk with rfl | rfl | e <;> omega)).trans (hb.block j hj h1 h2)⟩

/-- A row of three residues. -/
def rowC (v0 v1 v2 p : Nat) : Array Value := #[.int .u64 v0, .int .u64 p, .int .u64 v1, .int .u64 p, .int .u64 v2, .int .u64 p]
/-- A table's block. -/
def tabC (a : Sa) (p : Nat) : Array Value := #[.slice (some ⟨a.gc, 0, none⟩) 1 a.cc, .int .u64 1, .int .u64 p]

structure Ex (w : World) (a : Sa) (v0 v1 v2 p : Nat) (L : List (Nat × Nat × Value)) (X : World) : Prop where
  bt : Blk X a.t 156 (tabC a p)
  br : Blk X a.gr 153 (rowC v0 v1 v2 p)
  has : Has ((a.gc, 0, .slice (some ⟨a.gr, 0, none⟩) 3 a.cr) :: L) X
  but : But a.t a.gr w X
  lo : ∀ c ∈ L, w.heap.size ≤ c.1
  ht : a.t < w.heap.size
  hr : a.gr < w.heap.size
  n1 : a.gr ≠ a.t
  n2 : a.gc ≠ a.t
  n3 : a.gc ≠ a.gr
section
variable {w X Y : World} {a : Sa} {v0 v1 v2 p : Nat} {L : List (Nat × Nat × Value)}
theorem Ex.keep (h : Ex w a v0 v1 v2 p L X) (hb : Below X.heap.size X Y) : Ex w a v0 v1 v2 p L Y := ⟨h.bt.keep hb, h.br.keep hb, h.has.keep hb, h.but.and hb, h.lo, h.ht, h.hr, h.n1, h.n2, h.n3⟩
theorem Ex.drew (h : Ex w a v0 v1 v2 p L X) : Ex w a v0 v1 v2 p L X.drew := h.keep (Below.refl _ _).drew
theorem Ex.new (h : Ex w a v0 v1 v2 p L X) (o : Obj) : Ex w a v0 v1 v2 p L (X.alloc o) := h.keep (below_new _ _)
theorem Ex.cell {b o : Nat} {v : Value} (h : Ex w a v0 v1 v2 p L X) (hc : X.cell? ⟨b, o, none⟩ = some v) (hb : b < X.heap.size) (hl : w.heap.size ≤ b) : Ex w a v0 v1 v2 p ((b, o, v) :: L) X :=
  ⟨h.bt, h.br, ⟨h.has.1, ⟨hc, hb⟩, h.has.2⟩, h.but, fun c hc => by rcases List.mem_cons.1 hc with rfl | hc; exact hl; exact h.lo c hc, h.ht, h.hr, h.n1, h.n2, h.n3⟩
theorem Ex.new2 {t : TypeId} {u v : Value} (h : Ex w a v0 v1 v2 p L X) : Ex w a v0 v1 v2 p ((X.heap.size, 0, u) :: (X.heap.size, 1, v) :: L) (X.alloc (.cells #[u, v] t)) := by
  have hb := Blk.new X t #[u, v]
  exact ((h.new _).cell (hb.cell 1) hb.lt h.but.size).cell (hb.cell 0) hb.lt h.but.size
/-- A block that was new once has turned. -/
theorem Ex.only {X0 : World} (h0 : Ex w a v0 v1 v2 p L X0) (h : Ex w a v0 v1 v2 p L X) (ho : Only X0.heap.size X Y) : Ex w a v0 v1 v2 p L Y :=
  ⟨ho.blk (Nat.ne_of_lt h0.bt.lt) h.bt, ho.blk (Nat.ne_of_lt h0.br.lt) h.br, h.has.only ho fun c hc => Nat.ne_of_lt (h0.has.lt c hc), h.but.only ho (.inr (.inr h0.but.size)), h.lo, h.ht, h.hr, h.n1, h.n2, h.n3⟩
theorem Ex.store2 {X0 : World} {t : TypeId} {b c u v : Value} (h0 : Ex w a v0 v1 v2 p L X0) (h : Ex w a v0 v1 v2 p L X) (hb : Blk X X0.heap.size t #[b, c]) :
    Ex w a v0 v1 v2 p ((X0.heap.size, 0, u) :: (X0.heap.size, 1, v) :: L) ((X.setCell ⟨X0.heap.size, 0, none⟩ u).setCell ⟨X0.heap.size, 1, none⟩ v) := by
  have h2 := Blk.set2 hb u v
  have ho := ((Only.refl X0.heap.size X).setCell 0 u).setCell 1 v
  exact ((h0.only h ho).cell (h2.cell 1) h2.lt h0.but.size).cell (h2.cell 0) h2.lt h0.but.size
theorem Ex.tail {c : Nat × Nat × Value} (h : Ex w a v0 v1 v2 p (c :: L) X) : Ex w a v0 v1 v2 p L X := ⟨h.bt, h.br, ⟨h.has.1, h.has.2.2⟩, h.but, fun d hd => h.lo d (List.mem_cons_of_mem _ hd), h.ht, h.hr, h.n1, h.n2, h.n3⟩
theorem Ex.out (h : Ex w a v0 v1 v2 p L X) {g : Nat} (hg : g < w.heap.size) (hc : a.gc ≠ g) : ∀ c ∈ (a.gc, 0, Value.slice (some ⟨a.gr, 0, none⟩) 3 a.cr) :: L, c.1 ≠ g := by
  intro c hc'
  rcases List.mem_cons.1 hc' with rfl | hc'
  · exact hc
  · have := h.lo c hc'; omega
theorem Ex.same (h : Ex w a v0 v1 v2 p L X) : Ex w a v0 v1 v2 p L ((X.setCell ⟨a.t, 1, none⟩ (.int .u64 1)).setCell ⟨a.t, 2, none⟩ (.int .u64 p)) := by
  have ho := ((Only.refl a.t X).setCell 1 (.int .u64 1)).setCell 2 (.int .u64 p)
  have hb := (h.bt.store 1 (.int .u64 1)).store 2 (.int .u64 p)
  have hbt : Blk ((X.setCell ⟨a.t, 1, none⟩ (.int .u64 1)).setCell ⟨a.t, 2, none⟩ (.int .u64 p)) a.t 156 (tabC a p) := hb
  exact ⟨hbt, ho.blk h.n1 h.br, h.has.only ho (h.out h.ht h.n2), h.but.only ho (.inl rfl), h.lo, h.ht, h.hr, h.n1, h.n2, h.n3⟩
/-- A residue of the row has turned. -/
theorem Ex.row (h : Ex w a v0 v1 v2 p L X) {j u0 u1 u2 : Nat} {u : Int} (hj : ((rowC v0 v1 v2 p).setIfInBounds j (.int .u64 u)).setIfInBounds (j + 1) (.int .u64 p) = rowC u0 u1 u2 p) :
    Ex w a u0 u1 u2 p L ((X.setCell ⟨a.gr, j, none⟩ (.int .u64 u)).setCell ⟨a.gr, j + 1, none⟩ (.int .u64 p)) := by
  have ho := ((Only.refl a.gr X).setCell j (.int .u64 u)).setCell (j + 1) (.int .u64 p)
  have hb := (h.br.store j (.int .u64 u)).store (j + 1) (.int .u64 p)
  rw [hj] at hb
  exact ⟨ho.blk (Ne.symm h.n1) h.bt, hb, h.has.only ho (h.out h.hr h.n3), h.but.only ho (.inr (.inl rfl)), h.lo, h.ht, h.hr, h.n1, h.n2, h.n3⟩
end

theorem meth_times (n : Nat) (u v : Value) (W : World) : (method (n + 1) 153 (.agg #[u, v]) "rabbet/frac.times").run Tryz.prog W = .ok (137, .agg #[u, v]) W := by kernel_rfl
theorem meth_over (n : Nat) (u v : Value) (W : World) : (method (n + 1) 153 (.agg #[u, v]) "rabbet/frac.over").run Tryz.prog W = .ok (161, .agg #[u, v]) W := by kernel_rfl
theorem meth_minus (n : Nat) (u v : Value) (W : World) : (method (n + 1) 153 (.agg #[u, v]) "rabbet/frac.minus").run Tryz.prog W = .ok (142, .agg #[u, v]) W := by kernel_rfl

theorem resTimes_small (b p : Nat) (X : World) (hb : b < p) (hp : 2 < p) (hp2 : p < 4611686018427387904) : Calls Tryz.prog 137 #[.agg #[.int .u64 b, .int .u64 p], .agg #[.int .u64 1, .int .u64 p]] X (RetRes b p X) := by
  have h1 := resTimes_any b 1 p p X (by unfold two64; omega) (by unfold two64; omega) (by unfold two64; omega) (by omega) (by unfold two64; omega)
  rw [Nat.mul_one, Nat.mod_eq_of_lt hb] at h1
  exact h1

set_option maxRecDepth 100000 in
set_option maxHeartbeats 1600000 in
theorem tabExchange_ones (a : Sa) (p : Nat) (w : World) (h : Ex w a 1 1 1 p [] w) (hp : 2 < p) (hp2 : p < 4611686018427387904) :
    Calls Tryz.prog 132 #[.pointer (some ⟨a.t, 0, none⟩), .int .i64 0, .int .i64 0] w (fun e w' => e = .returned (.tuple #[]) ∧ Ex w a 1 (p - 1) (p - 1) p [] w') := by
  have hcells : ∀ X, Ex w a 1 1 1 p [] X → X.cell? ⟨a.t, 0, none⟩ = some (.slice (some ⟨a.gc, 0, none⟩) 1 a.cc) ∧ X.cell? ⟨a.gc, 0, none⟩ = some (.slice (some ⟨a.gr, 0, none⟩) 3 a.cr) ∧ X.cell? ⟨a.gr, 0, none⟩ = some (.int .u64 1) ∧ X.cell? ⟨a.gr, 1, none⟩ = some (.int .u64 p) :=
    fun X hX => ⟨hX.bt.cell 0, hX.has.1.1, hX.br.cell 0, hX.br.cell 1⟩
  have Hcells := Lib.hid hcells
  obtain ⟨t0, k0, r0, r1⟩ := hcells _ h
  clear hcells
  have H := Lib.hid h
  go_enter Tryz.func132, Tryz.ntmps132
  go_upto_region 0 with fail
  go_cut [6, 7] (fun s6 s7 wx => s6 = .slice (some ⟨a.gr, 0, none⟩) 3 a.cr ∧ ∃ g, s7 = .pointer (some ⟨g, 0, none⟩) ∧ Ex w a 1 1 1 p [(g, 0, .int .u64 (1 : Nat)), (g, 1, .int .u64 p)] wx)
  case first =>
    have hT := H.out
    go_region_held3 (fun w' => w'.cell? ⟨a.t, 0, none⟩ = some (.slice (some ⟨a.gc, 0, none⟩) 1 a.cc) ∧ w'.cell? ⟨a.gc, 0, none⟩ = some (.slice (some ⟨a.gr, 0, none⟩) 3 a.cr) ∧ w'.cell? ⟨a.gr, 0, none⟩ = some (.int .u64 1) ∧ w'.cell? ⟨a.gr, 1, none⟩ = some (.int .u64 p))
      (first | exact Hcells.out _ hT | exact Hcells.out _ (Ex.drew hT) | exact Hcells.out _ (Ex.drew (Ex.new hT _)) | exact Hcells.out _ (Ex.new hT _))
      (fail)
    all_goals
      go_wp2_with fail
      go_meet
      exact ⟨rfl, _, rfl, Ex.new2 (Ex.drew hT)⟩
  case rest =>
    obtain ⟨rfl, g7, rfl, hT⟩ := hcut
    clear t0 k0 r0 r1 H Hcells
    have hcells : ∀ X, Ex w a 1 1 1 p [(g7, 0, .int .u64 (1 : Nat)), (g7, 1, .int .u64 p)] X → X.cell? ⟨a.t, 1, none⟩ = some (.int .u64 1) ∧ X.cell? ⟨a.t, 2, none⟩ = some (.int .u64 p) ∧ X.cell? ⟨g7, 0, none⟩ = some (.int .u64 1) ∧ X.cell? ⟨g7, 1, none⟩ = some (.int .u64 p) :=
      fun X hX => ⟨hX.bt.cell 1, hX.bt.cell 2, hX.has.2.1.1, hX.has.2.2.1.1⟩
    have Hcells := Lib.hid hcells
    obtain ⟨t1, t2, p0, p1⟩ := hcells _ hT
    clear hcells
    have f1 := hT.bt.free 1
    have f2 := hT.bt.free 2
    have Htm := Lib.hid (fun X => resTimes_small 1 p X (by omega) hp hp2)
    have hmt := meth_times
    go_upto_region 1 with fail
    go_cut [] (fun wx => Ex w a 1 1 1 p [(g7, 0, .int .u64 (1 : Nat)), (g7, 1, .int .u64 p)] wx)
    case first =>
      go_region_held3 (fun w' => w'.cell? ⟨a.t, 1, none⟩ = some (.int .u64 1) ∧ w'.cell? ⟨a.t, 2, none⟩ = some (.int .u64 p) ∧ w'.cell? ⟨g7, 0, none⟩ = some (.int .u64 1) ∧ w'.cell? ⟨g7, 1, none⟩ = some (.int .u64 p))
        (first | exact Hcells.out _ hT | exact Hcells.out _ (Ex.drew hT) | exact Hcells.out _ hT2 | exact Hcells.out _ (Ex.same hT2))
        (first
        | (go_at_call 137; refine (Htm.out _).mono ?_; rintro e w2 ⟨rfl, hb2⟩; unfold resV; have hT2 := Ex.keep (Ex.drew hT) hb2; have f3 := hT2.bt.free 1; have f4 := hT2.bt.free 2; obtain ⟨t1', t2', p0', p1'⟩ := Hcells.out _ hT2))
      all_goals
        go_wp2_with fail
        go_meet
        exact Ex.same hT2
    case rest =>
      have hT := hcut
      clear Hcells t1 t2 p0 p1 hmt f1 f2 hcut
      have Hov := Lib.hid (fun X => resOver_one 1 p X (by omega) (by omega) (by omega))
      have hmi := fun X => resMinus_any 1 1 p p X (by omega) (by omega) (by omega)
      rw [show (1 + p - 1) % p = 0 by rw [Nat.add_sub_cancel_left]; exact Nat.mod_self p] at hmi
      have Hmi := Lib.hid hmi
      have hmz := fun X => resMinus_any 0 1 p p X (by omega) (by omega) (by omega)
      rw [show (0 + p - 1) % p = p - 1 by rw [Nat.zero_add]; exact Nat.mod_eq_of_lt (by omega)] at hmz
      have Hmz := Lib.hid hmz
      clear hmi hmz
      have hmt := meth_times
      have hmo := meth_over
      have hmm := meth_minus
      unfold resV at Hov Hmi Hmz
      have hc2 : ∀ X, Ex w a 1 1 1 p [(g7, 0, .int .u64 (1 : Nat)), (g7, 1, .int .u64 p)] X → X.cell? ⟨g7, 0, none⟩ = some (.int .u64 1) ∧ X.cell? ⟨g7, 1, none⟩ = some (.int .u64 p) := fun X hX => ⟨hX.has.2.1.1, hX.has.2.2.1.1⟩
      have Hc2 := Lib.hid hc2
      obtain ⟨c20, c21⟩ := hc2 _ hT
      clear hc2
      go_upto_region 2 with fail
      go_cut [8] (fun sx wx => ∃ g8, sx = .pointer (some ⟨g8, 0, none⟩) ∧ Ex w a 1 1 1 p [(g8, 0, .int .u64 (1 : Nat)), (g8, 1, .int .u64 p), (g7, 0, .int .u64 (1 : Nat)), (g7, 1, .int .u64 p)] wx)
      case first =>
        go_wp2_with (go_at_call 161; refine (Hov.out _).mono ?_; rintro e w2 ⟨rfl, hb2⟩; unfold resV; have hT2 := Ex.keep hT hb2)
        go_meet
        first | exact ⟨_, rfl, Ex.new2 hT2⟩ | exact ⟨_, rfl, Ex.store2 hT2 (Ex.new hT2 _) (Blk.new _ _ _)⟩
      case rest =>
        clear hT Hc2 c20 c21
        obtain ⟨g8, rfl, hT⟩ := hcut
        have hc3 : ∀ X, Ex w a 1 1 1 p [(g8, 0, .int .u64 (1 : Nat)), (g8, 1, .int .u64 p), (g7, 0, .int .u64 (1 : Nat)), (g7, 1, .int .u64 p)] X → X.cell? ⟨g8, 0, none⟩ = some (.int .u64 1) ∧ X.cell? ⟨g8, 1, none⟩ = some (.int .u64 p) := fun X hX => ⟨hX.has.2.1.1, hX.has.2.2.1.1⟩
        have Hc3 := Lib.hid hc3
        obtain ⟨c30, c31⟩ := hc3 _ hT
        clear hc3
        go_upto_region 3 with fail
        go_cut [9] (fun sx wx => ∃ g9, sx = .pointer (some ⟨g9, 0, none⟩) ∧ Ex w a 1 1 1 p [(g9, 0, .int .u64 (0 : Nat)), (g9, 1, .int .u64 p), (g8, 0, .int .u64 (1 : Nat)), (g8, 1, .int .u64 p), (g7, 0, .int .u64 (1 : Nat)), (g7, 1, .int .u64 p)] wx)
        case first =>
          go_wp2_with (go_at_call 142; refine (Hmi.out _).mono ?_; rintro e w2 ⟨rfl, hb2⟩; unfold resV; have hT2 := Ex.keep hT hb2)
          go_meet
          first | exact ⟨_, rfl, Ex.new2 hT2⟩ | exact ⟨_, rfl, Ex.store2 hT2 (Ex.new hT2 _) (Blk.new _ _ _)⟩
        case rest =>
          clear hT Hc3 c30 c31
          obtain ⟨g9, rfl, hT⟩ := hcut
          have hc4 : ∀ X, Ex w a 1 1 1 p [(g9, 0, .int .u64 (0 : Nat)), (g9, 1, .int .u64 p), (g8, 0, .int .u64 (1 : Nat)), (g8, 1, .int .u64 p), (g7, 0, .int .u64 (1 : Nat)), (g7, 1, .int .u64 p)] X → X.cell? ⟨g8, 0, none⟩ = some (.int .u64 1) ∧ X.cell? ⟨g8, 1, none⟩ = some (.int .u64 p) ∧ X.cell? ⟨g7, 0, none⟩ = some (.int .u64 1) ∧ X.cell? ⟨g7, 1, none⟩ = some (.int .u64 p) := fun X hX => ⟨hX.has.2.2.2.1.1, hX.has.2.2.2.2.1.1, hX.has.2.2.2.2.2.1.1, hX.has.2.2.2.2.2.2.1.1⟩
          have Hc4 := Lib.hid hc4
          obtain ⟨c40, c41, c42, c43⟩ := hc4 _ hT
          clear hc4
          go_upto_region 4 with fail
          go_cut [10] (fun sx wx => ∃ g10, sx = .pointer (some ⟨g10, 0, none⟩) ∧ Ex w a 1 1 1 p [(g10, 0, .int .u64 (1 : Nat)), (g10, 1, .int .u64 p), (g9, 0, .int .u64 (0 : Nat)), (g9, 1, .int .u64 p), (g8, 0, .int .u64 (1 : Nat)), (g8, 1, .int .u64 p), (g7, 0, .int .u64 (1 : Nat)), (g7, 1, .int .u64 p)] wx)
          case first =>
            go_wp2_with (go_at_call 161; refine (Hov.out _).mono ?_; rintro e w2 ⟨rfl, hb2⟩; unfold resV; have hT2 := Ex.keep hT hb2)
            go_meet
            first | exact ⟨_, rfl, Ex.new2 hT2⟩ | exact ⟨_, rfl, Ex.store2 hT2 (Ex.new hT2 _) (Blk.new _ _ _)⟩
          case rest =>
            clear hT Hc4 c40 c41 c42 c43
            obtain ⟨g10, rfl, hT⟩ := hcut
            go_upto_region 5 with fail
            go_wp2_with fail
            refine wp_loop_rounds 4 ?_
            rw [rounds_succ]
            have hr0 : ∀ X, Ex w a 1 1 1 p [(g10, 0, .int .u64 (1 : Nat)), (g10, 1, .int .u64 p), (g9, 0, .int .u64 (0 : Nat)), (g9, 1, .int .u64 p), (g8, 0, .int .u64 (1 : Nat)), (g8, 1, .int .u64 p), (g7, 0, .int .u64 (1 : Nat)), (g7, 1, .int .u64 p)] X → X.cell? ⟨a.gr, 0, none⟩ = some (.int .u64 1) ∧ X.cell? ⟨a.gr, 1, none⟩ = some (.int .u64 p) := fun X hX => ⟨hX.br.cell 0, hX.br.cell 1⟩
            have Hr0 := Lib.hid hr0
            obtain ⟨r00, r01⟩ := hr0 _ hT
            clear hr0
            go_upto_region 7 with fail
            go_cut [11, 12] (fun si sx wx => si = .int .i64 0 ∧ ∃ gx, sx = .pointer (some ⟨gx, 0, none⟩) ∧ Ex w a 1 1 1 p [(gx, 0, .int .u64 (1 : Nat)), (gx, 1, .int .u64 p), (g10, 0, .int .u64 (1 : Nat)), (g10, 1, .int .u64 p), (g9, 0, .int .u64 (0 : Nat)), (g9, 1, .int .u64 p), (g8, 0, .int .u64 (1 : Nat)), (g8, 1, .int .u64 p), (g7, 0, .int .u64 (1 : Nat)), (g7, 1, .int .u64 p)] wx)
            case first =>
              go_wp2_with fail
              go_meet
              first | exact ⟨rfl, _, rfl, Ex.new2 hT⟩ | exact ⟨rfl, _, rfl, Ex.store2 hT (Ex.new hT _) (Blk.new _ _ _)⟩
            case rest =>
              clear hT Hr0 r00 r01
              obtain ⟨rfl, gx, rfl, hT⟩ := hcut
              have hs0 : ∀ X, Ex w a 1 1 1 p [(gx, 0, .int .u64 (1 : Nat)), (gx, 1, .int .u64 p), (g10, 0, .int .u64 (1 : Nat)), (g10, 1, .int .u64 p), (g9, 0, .int .u64 (0 : Nat)), (g9, 1, .int .u64 p), (g8, 0, .int .u64 (1 : Nat)), (g8, 1, .int .u64 p), (g7, 0, .int .u64 (1 : Nat)), (g7, 1, .int .u64 p)] X → X.cell? ⟨g9, 0, none⟩ = some (.int .u64 0) ∧ X.cell? ⟨g9, 1, none⟩ = some (.int .u64 p) ∧ X.cell? ⟨gx, 0, none⟩ = some (.int .u64 1) ∧ X.cell? ⟨gx, 1, none⟩ = some (.int .u64 p) ∧ X.cell? ⟨g10, 0, none⟩ = some (.int .u64 1) ∧ X.cell? ⟨g10, 1, none⟩ = some (.int .u64 p) := fun X hX => ⟨hX.has.2.2.2.2.2.1.1, hX.has.2.2.2.2.2.2.1.1, hX.has.2.1.1, hX.has.2.2.1.1, hX.has.2.2.2.1.1, hX.has.2.2.2.2.1.1⟩
              have Hs0 := Lib.hid hs0
              obtain ⟨s00, s01, s02, s03, s04, s05⟩ := hs0 _ hT
              clear hs0
              have HY0 := Lib.hid (show ∀ X, Ex w a 1 1 1 p [(gx, 0, .int .u64 (1 : Nat)), (gx, 1, .int .u64 p), (g10, 0, .int .u64 (1 : Nat)), (g10, 1, .int .u64 p), (g9, 0, .int .u64 (0 : Nat)), (g9, 1, .int .u64 p), (g8, 0, .int .u64 (1 : Nat)), (g8, 1, .int .u64 p), (g7, 0, .int .u64 (1 : Nat)), (g7, 1, .int .u64 p)] X → X.cell? ⟨a.gr, 0, none⟩ = some (.int .u64 1) ∧ X.cell? ⟨a.gr, 1, none⟩ = some (.int .u64 p) ∧ X.frozen? ⟨a.gr, 0, none⟩ = false ∧ X.frozen? ⟨a.gr, 1, none⟩ = false from fun X hX => ⟨hX.br.cell 0, hX.br.cell 1, hX.br.free 0, hX.br.free 1⟩)
              have HsR0 := Lib.hid (show ∀ X, Ex w a (p - 1) 1 1 p [(gx, 0, .int .u64 (1 : Nat)), (gx, 1, .int .u64 p), (g10, 0, .int .u64 (1 : Nat)), (g10, 1, .int .u64 p), (g9, 0, .int .u64 (0 : Nat)), (g9, 1, .int .u64 p), (g8, 0, .int .u64 (1 : Nat)), (g8, 1, .int .u64 p), (g7, 0, .int .u64 (1 : Nat)), (g7, 1, .int .u64 p)] X → X.cell? ⟨g9, 0, none⟩ = some (.int .u64 0) ∧ X.cell? ⟨g9, 1, none⟩ = some (.int .u64 p) ∧ X.cell? ⟨gx, 0, none⟩ = some (.int .u64 1) ∧ X.cell? ⟨gx, 1, none⟩ = some (.int .u64 p) ∧ X.cell? ⟨g10, 0, none⟩ = some (.int .u64 1) ∧ X.cell? ⟨g10, 1, none⟩ = some (.int .u64 p) from fun X hX => ⟨hX.has.2.2.2.2.2.1.1, hX.has.2.2.2.2.2.2.1.1, hX.has.2.1.1, hX.has.2.2.1.1, hX.has.2.2.2.1.1, hX.has.2.2.2.2.1.1⟩)
              go_upto_region 8 with fail
              go_region_held3 (fun w' => w'.cell? ⟨g9, 0, none⟩ = some (.int .u64 0) ∧ w'.cell? ⟨g9, 1, none⟩ = some (.int .u64 p) ∧ w'.cell? ⟨gx, 0, none⟩ = some (.int .u64 1) ∧ w'.cell? ⟨gx, 1, none⟩ = some (.int .u64 p) ∧ w'.cell? ⟨g10, 0, none⟩ = some (.int .u64 1) ∧ w'.cell? ⟨g10, 1, none⟩ = some (.int .u64 p))
                (first | exact Hs0.out _ hT | exact Hs0.out _ (Ex.drew hT) | exact Hs0.out _ hT2 | exact Hs0.out _ hT3 | exact HsR0.out _ (Ex.row hT3 rfl))
                (first
                | (go_at_call 137; refine (Htm.out _).mono ?_; rintro e w2 ⟨rfl, hb2⟩; unfold resV; have hT2 := Ex.keep (Ex.drew hT) hb2)
                | (go_at_call 142; refine (Hmz.out _).mono ?_; rintro e w3 ⟨rfl, hb3⟩; unfold resV; have hT3 := Ex.keep hT2 hb3; obtain ⟨y0, y1, v0, v1⟩ := HY0.out _ hT3))
              have hT4 : Ex w a (p - 1) 1 1 p [(g10, 0, .int .u64 (1 : Nat)), (g10, 1, .int .u64 p), (g9, 0, .int .u64 (0 : Nat)), (g9, 1, .int .u64 p), (g8, 0, .int .u64 (1 : Nat)), (g8, 1, .int .u64 p), (g7, 0, .int .u64 (1 : Nat)), (g7, 1, .int .u64 p)] ((w3.setCell ⟨a.gr, 0, none⟩ (.int .u64 ((p - 1 : Nat) : Int))).setCell ⟨a.gr, 1, none⟩ (.int .u64 p)) := (Ex.row hT3 rfl : Ex w a (p - 1) 1 1 p [(gx, 0, .int .u64 (1 : Nat)), (gx, 1, .int .u64 p), (g10, 0, .int .u64 (1 : Nat)), (g10, 1, .int .u64 p), (g9, 0, .int .u64 (0 : Nat)), (g9, 1, .int .u64 p), (g8, 0, .int .u64 (1 : Nat)), (g8, 1, .int .u64 p), (g7, 0, .int .u64 (1 : Nat)), (g7, 1, .int .u64 p)] _).tail.tail
              obtain ⟨wz, hwz⟩ : ∃ wz, wz = (w3.setCell ⟨a.gr, 0, none⟩ (.int .u64 ((p - 1 : Nat) : Int))).setCell ⟨a.gr, 1, none⟩ (.int .u64 p) := ⟨_, rfl⟩
              rw [← hwz] at hT4
              have Hwz := Lib.hid hwz
              clear hwz hT hT2 hT3 hb2 hb3 y0 y1 v0 v1 Hs0 HsR0 HY0 s00 s01 s02 s03 s04 s05
              go_upto_region 9 with fail
              rw [← Hwz.out]
              clear Hwz
              go_wp2_with fail
              have hT := hT4
              clear hT4
              rw [rounds_succ]
              have hr1 : ∀ X, Ex w a (p - 1) 1 1 p [(g10, 0, .int .u64 (1 : Nat)), (g10, 1, .int .u64 p), (g9, 0, .int .u64 (0 : Nat)), (g9, 1, .int .u64 p), (g8, 0, .int .u64 (1 : Nat)), (g8, 1, .int .u64 p), (g7, 0, .int .u64 (1 : Nat)), (g7, 1, .int .u64 p)] X → X.cell? ⟨a.gr, 2, none⟩ = some (.int .u64 1) ∧ X.cell? ⟨a.gr, 3, none⟩ = some (.int .u64 p) := fun X hX => ⟨hX.br.cell 2, hX.br.cell 3⟩
              have Hr1 := Lib.hid hr1
              obtain ⟨r10, r11⟩ := hr1 _ hT
              clear hr1
              go_upto_region 7 with fail
              go_cut [11, 12] (fun si sx wx => si = .int .i64 1 ∧ ∃ gx, sx = .pointer (some ⟨gx, 0, none⟩) ∧ Ex w a (p - 1) 1 1 p [(gx, 0, .int .u64 (1 : Nat)), (gx, 1, .int .u64 p), (g10, 0, .int .u64 (1 : Nat)), (g10, 1, .int .u64 p), (g9, 0, .int .u64 (0 : Nat)), (g9, 1, .int .u64 p), (g8, 0, .int .u64 (1 : Nat)), (g8, 1, .int .u64 p), (g7, 0, .int .u64 (1 : Nat)), (g7, 1, .int .u64 p)] wx)
              case first =>
                go_wp2_with fail
                go_meet
                first | exact ⟨rfl, _, rfl, Ex.new2 hT⟩ | exact ⟨rfl, _, rfl, Ex.store2 hT (Ex.new hT _) (Blk.new _ _ _)⟩
              case rest =>
                clear hT Hr1 r10 r11
                obtain ⟨rfl, gx, rfl, hT⟩ := hcut
                have hs1 : ∀ X, Ex w a (p - 1) 1 1 p [(gx, 0, .int .u64 (1 : Nat)), (gx, 1, .int .u64 p), (g10, 0, .int .u64 (1 : Nat)), (g10, 1, .int .u64 p), (g9, 0, .int .u64 (0 : Nat)), (g9, 1, .int .u64 p), (g8, 0, .int .u64 (1 : Nat)), (g8, 1, .int .u64 p), (g7, 0, .int .u64 (1 : Nat)), (g7, 1, .int .u64 p)] X → X.cell? ⟨g9, 0, none⟩ = some (.int .u64 0) ∧ X.cell? ⟨g9, 1, none⟩ = some (.int .u64 p) ∧ X.cell? ⟨gx, 0, none⟩ = some (.int .u64 1) ∧ X.cell? ⟨gx, 1, none⟩ = some (.int .u64 p) ∧ X.cell? ⟨g10, 0, none⟩ = some (.int .u64 1) ∧ X.cell? ⟨g10, 1, none⟩ = some (.int .u64 p) := fun X hX => ⟨hX.has.2.2.2.2.2.1.1, hX.has.2.2.2.2.2.2.1.1, hX.has.2.1.1, hX.has.2.2.1.1, hX.has.2.2.2.1.1, hX.has.2.2.2.2.1.1⟩
                have Hs1 := Lib.hid hs1
                obtain ⟨s10, s11, s12, s13, s14, s15⟩ := hs1 _ hT
                clear hs1
                have HY1 := Lib.hid (show ∀ X, Ex w a (p - 1) 1 1 p [(gx, 0, .int .u64 (1 : Nat)), (gx, 1, .int .u64 p), (g10, 0, .int .u64 (1 : Nat)), (g10, 1, .int .u64 p), (g9, 0, .int .u64 (0 : Nat)), (g9, 1, .int .u64 p), (g8, 0, .int .u64 (1 : Nat)), (g8, 1, .int .u64 p), (g7, 0, .int .u64 (1 : Nat)), (g7, 1, .int .u64 p)] X → X.cell? ⟨a.gr, 2, none⟩ = some (.int .u64 1) ∧ X.cell? ⟨a.gr, 3, none⟩ = some (.int .u64 p) ∧ X.frozen? ⟨a.gr, 2, none⟩ = false ∧ X.frozen? ⟨a.gr, 3, none⟩ = false from fun X hX => ⟨hX.br.cell 2, hX.br.cell 3, hX.br.free 2, hX.br.free 3⟩)
                have HsR1 := Lib.hid (show ∀ X, Ex w a (p - 1) (p - 1) 1 p [(gx, 0, .int .u64 (1 : Nat)), (gx, 1, .int .u64 p), (g10, 0, .int .u64 (1 : Nat)), (g10, 1, .int .u64 p), (g9, 0, .int .u64 (0 : Nat)), (g9, 1, .int .u64 p), (g8, 0, .int .u64 (1 : Nat)), (g8, 1, .int .u64 p), (g7, 0, .int .u64 (1 : Nat)), (g7, 1, .int .u64 p)] X → X.cell? ⟨g9, 0, none⟩ = some (.int .u64 0) ∧ X.cell? ⟨g9, 1, none⟩ = some (.int .u64 p) ∧ X.cell? ⟨gx, 0, none⟩ = some (.int .u64 1) ∧ X.cell? ⟨gx, 1, none⟩ = some (.int .u64 p) ∧ X.cell? ⟨g10, 0, none⟩ = some (.int .u64 1) ∧ X.cell? ⟨g10, 1, none⟩ = some (.int .u64 p) from fun X hX => ⟨hX.has.2.2.2.2.2.1.1, hX.has.2.2.2.2.2.2.1.1, hX.has.2.1.1, hX.has.2.2.1.1, hX.has.2.2.2.1.1, hX.has.2.2.2.2.1.1⟩)
                go_upto_region 8 with fail
                go_region_held3 (fun w' => w'.cell? ⟨g9, 0, none⟩ = some (.int .u64 0) ∧ w'.cell? ⟨g9, 1, none⟩ = some (.int .u64 p) ∧ w'.cell? ⟨gx, 0, none⟩ = some (.int .u64 1) ∧ w'.cell? ⟨gx, 1, none⟩ = some (.int .u64 p) ∧ w'.cell? ⟨g10, 0, none⟩ = some (.int .u64 1) ∧ w'.cell? ⟨g10, 1, none⟩ = some (.int .u64 p))
                  (first | exact Hs1.out _ hT | exact Hs1.out _ (Ex.drew hT) | exact Hs1.out _ hT2 | exact Hs1.out _ hT3 | exact HsR1.out _ (Ex.row hT3 rfl))
                  (first
                  | (go_at_call 137; refine (Htm.out _).mono ?_; rintro e w2 ⟨rfl, hb2⟩; unfold resV; have hT2 := Ex.keep (Ex.drew hT) hb2)
                  | (go_at_call 142; refine (Hmz.out _).mono ?_; rintro e w3 ⟨rfl, hb3⟩; unfold resV; have hT3 := Ex.keep hT2 hb3; obtain ⟨y0, y1, v0, v1⟩ := HY1.out _ hT3))
                have hT4 : Ex w a (p - 1) (p - 1) 1 p [(g10, 0, .int .u64 (1 : Nat)), (g10, 1, .int .u64 p), (g9, 0, .int .u64 (0 : Nat)), (g9, 1, .int .u64 p), (g8, 0, .int .u64 (1 : Nat)), (g8, 1, .int .u64 p), (g7, 0, .int .u64 (1 : Nat)), (g7, 1, .int .u64 p)] ((w3.setCell ⟨a.gr, 2, none⟩ (.int .u64 ((p - 1 : Nat) : Int))).setCell ⟨a.gr, 3, none⟩ (.int .u64 p)) := (Ex.row hT3 rfl : Ex w a (p - 1) (p - 1) 1 p [(gx, 0, .int .u64 (1 : Nat)), (gx, 1, .int .u64 p), (g10, 0, .int .u64 (1 : Nat)), (g10, 1, .int .u64 p), (g9, 0, .int .u64 (0 : Nat)), (g9, 1, .int .u64 p), (g8, 0, .int .u64 (1 : Nat)), (g8, 1, .int .u64 p), (g7, 0, .int .u64 (1 : Nat)), (g7, 1, .int .u64 p)] _).tail.tail
                obtain ⟨wz, hwz⟩ : ∃ wz, wz = (w3.setCell ⟨a.gr, 2, none⟩ (.int .u64 ((p - 1 : Nat) : Int))).setCell ⟨a.gr, 3, none⟩ (.int .u64 p) := ⟨_, rfl⟩
                rw [← hwz] at hT4
                have Hwz := Lib.hid hwz
                clear hwz hT hT2 hT3 hb2 hb3 y0 y1 v0 v1 Hs1 HsR1 HY1 s10 s11 s12 s13 s14 s15
                go_upto_region 9 with fail
                rw [← Hwz.out]
                clear Hwz
                go_wp2_with fail
                have hT := hT4
                clear hT4
                rw [rounds_succ]
                have hr2 : ∀ X, Ex w a (p - 1) (p - 1) 1 p [(g10, 0, .int .u64 (1 : Nat)), (g10, 1, .int .u64 p), (g9, 0, .int .u64 (0 : Nat)), (g9, 1, .int .u64 p), (g8, 0, .int .u64 (1 : Nat)), (g8, 1, .int .u64 p), (g7, 0, .int .u64 (1 : Nat)), (g7, 1, .int .u64 p)] X → X.cell? ⟨a.gr, 4, none⟩ = some (.int .u64 1) ∧ X.cell? ⟨a.gr, 5, none⟩ = some (.int .u64 p) := fun X hX => ⟨hX.br.cell 4, hX.br.cell 5⟩
                have Hr2 := Lib.hid hr2
                obtain ⟨r20, r21⟩ := hr2 _ hT
                clear hr2
                go_upto_region 7 with fail
                go_cut [11, 12] (fun si sx wx => si = .int .i64 2 ∧ ∃ gx, sx = .pointer (some ⟨gx, 0, none⟩) ∧ Ex w a (p - 1) (p - 1) 1 p [(gx, 0, .int .u64 (1 : Nat)), (gx, 1, .int .u64 p), (g10, 0, .int .u64 (1 : Nat)), (g10, 1, .int .u64 p), (g9, 0, .int .u64 (0 : Nat)), (g9, 1, .int .u64 p), (g8, 0, .int .u64 (1 : Nat)), (g8, 1, .int .u64 p), (g7, 0, .int .u64 (1 : Nat)), (g7, 1, .int .u64 p)] wx)
                case first =>
                  go_wp2_with fail
                  go_meet
                  first | exact ⟨rfl, _, rfl, Ex.new2 hT⟩ | exact ⟨rfl, _, rfl, Ex.store2 hT (Ex.new hT _) (Blk.new _ _ _)⟩
                case rest =>
                  clear hT Hr2 r20 r21
                  obtain ⟨rfl, gx, rfl, hT⟩ := hcut
                  have hs2 : ∀ X, Ex w a (p - 1) (p - 1) 1 p [(gx, 0, .int .u64 (1 : Nat)), (gx, 1, .int .u64 p), (g10, 0, .int .u64 (1 : Nat)), (g10, 1, .int .u64 p), (g9, 0, .int .u64 (0 : Nat)), (g9, 1, .int .u64 p), (g8, 0, .int .u64 (1 : Nat)), (g8, 1, .int .u64 p), (g7, 0, .int .u64 (1 : Nat)), (g7, 1, .int .u64 p)] X → X.cell? ⟨g9, 0, none⟩ = some (.int .u64 0) ∧ X.cell? ⟨g9, 1, none⟩ = some (.int .u64 p) ∧ X.cell? ⟨gx, 0, none⟩ = some (.int .u64 1) ∧ X.cell? ⟨gx, 1, none⟩ = some (.int .u64 p) ∧ X.cell? ⟨g10, 0, none⟩ = some (.int .u64 1) ∧ X.cell? ⟨g10, 1, none⟩ = some (.int .u64 p) := fun X hX => ⟨hX.has.2.2.2.2.2.1.1, hX.has.2.2.2.2.2.2.1.1, hX.has.2.1.1, hX.has.2.2.1.1, hX.has.2.2.2.1.1, hX.has.2.2.2.2.1.1⟩
                  have Hs2 := Lib.hid hs2
                  obtain ⟨s20, s21, s22, s23, s24, s25⟩ := hs2 _ hT
                  clear hs2
                  have HY2 := Lib.hid (show ∀ X, Ex w a (p - 1) (p - 1) 1 p [(gx, 0, .int .u64 (1 : Nat)), (gx, 1, .int .u64 p), (g10, 0, .int .u64 (1 : Nat)), (g10, 1, .int .u64 p), (g9, 0, .int .u64 (0 : Nat)), (g9, 1, .int .u64 p), (g8, 0, .int .u64 (1 : Nat)), (g8, 1, .int .u64 p), (g7, 0, .int .u64 (1 : Nat)), (g7, 1, .int .u64 p)] X → X.cell? ⟨a.gr, 4, none⟩ = some (.int .u64 1) ∧ X.cell? ⟨a.gr, 5, none⟩ = some (.int .u64 p) ∧ X.frozen? ⟨a.gr, 4, none⟩ = false ∧ X.frozen? ⟨a.gr, 5, none⟩ = false from fun X hX => ⟨hX.br.cell 4, hX.br.cell 5, hX.br.free 4, hX.br.free 5⟩)
                  have HsR2 := Lib.hid (show ∀ X, Ex w a (p - 1) (p - 1) (p - 1) p [(gx, 0, .int .u64 (1 : Nat)), (gx, 1, .int .u64 p), (g10, 0, .int .u64 (1 : Nat)), (g10, 1, .int .u64 p), (g9, 0, .int .u64 (0 : Nat)), (g9, 1, .int .u64 p), (g8, 0, .int .u64 (1 : Nat)), (g8, 1, .int .u64 p), (g7, 0, .int .u64 (1 : Nat)), (g7, 1, .int .u64 p)] X → X.cell? ⟨g9, 0, none⟩ = some (.int .u64 0) ∧ X.cell? ⟨g9, 1, none⟩ = some (.int .u64 p) ∧ X.cell? ⟨gx, 0, none⟩ = some (.int .u64 1) ∧ X.cell? ⟨gx, 1, none⟩ = some (.int .u64 p) ∧ X.cell? ⟨g10, 0, none⟩ = some (.int .u64 1) ∧ X.cell? ⟨g10, 1, none⟩ = some (.int .u64 p) from fun X hX => ⟨hX.has.2.2.2.2.2.1.1, hX.has.2.2.2.2.2.2.1.1, hX.has.2.1.1, hX.has.2.2.1.1, hX.has.2.2.2.1.1, hX.has.2.2.2.2.1.1⟩)
                  go_upto_region 8 with fail
                  go_region_held3 (fun w' => w'.cell? ⟨g9, 0, none⟩ = some (.int .u64 0) ∧ w'.cell? ⟨g9, 1, none⟩ = some (.int .u64 p) ∧ w'.cell? ⟨gx, 0, none⟩ = some (.int .u64 1) ∧ w'.cell? ⟨gx, 1, none⟩ = some (.int .u64 p) ∧ w'.cell? ⟨g10, 0, none⟩ = some (.int .u64 1) ∧ w'.cell? ⟨g10, 1, none⟩ = some (.int .u64 p))
                    (first | exact Hs2.out _ hT | exact Hs2.out _ (Ex.drew hT) | exact Hs2.out _ hT2 | exact Hs2.out _ hT3 | exact HsR2.out _ (Ex.row hT3 rfl))
                    (first
                    | (go_at_call 137; refine (Htm.out _).mono ?_; rintro e w2 ⟨rfl, hb2⟩; unfold resV; have hT2 := Ex.keep (Ex.drew hT) hb2)
                    | (go_at_call 142; refine (Hmz.out _).mono ?_; rintro e w3 ⟨rfl, hb3⟩; unfold resV; have hT3 := Ex.keep hT2 hb3; obtain ⟨y0, y1, v0, v1⟩ := HY2.out _ hT3))
                  have hT4 : Ex w a (p - 1) (p - 1) (p - 1) p [(g10, 0, .int .u64 (1 : Nat)), (g10, 1, .int .u64 p), (g9, 0, .int .u64 (0 : Nat)), (g9, 1, .int .u64 p), (g8, 0, .int .u64 (1 : Nat)), (g8, 1, .int .u64 p), (g7, 0, .int .u64 (1 : Nat)), (g7, 1, .int .u64 p)] ((w3.setCell ⟨a.gr, 4, none⟩ (.int .u64 ((p - 1 : Nat) : Int))).setCell ⟨a.gr, 5, none⟩ (.int .u64 p)) := (Ex.row hT3 rfl : Ex w a (p - 1) (p - 1) (p - 1) p [(gx, 0, .int .u64 (1 : Nat)), (gx, 1, .int .u64 p), (g10, 0, .int .u64 (1 : Nat)), (g10, 1, .int .u64 p), (g9, 0, .int .u64 (0 : Nat)), (g9, 1, .int .u64 p), (g8, 0, .int .u64 (1 : Nat)), (g8, 1, .int .u64 p), (g7, 0, .int .u64 (1 : Nat)), (g7, 1, .int .u64 p)] _).tail.tail
                  obtain ⟨wz, hwz⟩ : ∃ wz, wz = (w3.setCell ⟨a.gr, 4, none⟩ (.int .u64 ((p - 1 : Nat) : Int))).setCell ⟨a.gr, 5, none⟩ (.int .u64 p) := ⟨_, rfl⟩
                  rw [← hwz] at hT4
                  have Hwz := Lib.hid hwz
                  clear hwz hT hT2 hT3 hb2 hb3 y0 y1 v0 v1 Hs2 HsR2 HY2 s20 s21 s22 s23 s24 s25
                  go_upto_region 9 with fail
                  rw [← Hwz.out]
                  clear Hwz
                  go_wp2_with fail
                  have hT := hT4
                  clear hT4
                  rw [rounds_succ]
                  have hz : ∀ X, Ex w a (p - 1) (p - 1) (p - 1) p [(g10, 0, .int .u64 (1 : Nat)), (g10, 1, .int .u64 p), (g9, 0, .int .u64 (0 : Nat)), (g9, 1, .int .u64 p), (g8, 0, .int .u64 (1 : Nat)), (g8, 1, .int .u64 p), (g7, 0, .int .u64 (1 : Nat)), (g7, 1, .int .u64 p)] X → X.cell? ⟨g10, 0, none⟩ = some (.int .u64 1) ∧ X.cell? ⟨g10, 1, none⟩ = some (.int .u64 p) ∧ X.cell? ⟨a.gr, 0, none⟩ = some (.int .u64 ((p - 1 : Nat) : Int)) ∧ X.cell? ⟨a.gr, 1, none⟩ = some (.int .u64 p) ∧ X.frozen? ⟨a.gr, 0, none⟩ = false ∧ X.frozen? ⟨a.gr, 1, none⟩ = false ∧ X.cell? ⟨a.t, 0, none⟩ = some (.slice (some ⟨a.gc, 0, none⟩) 1 a.cc) ∧ X.cell? ⟨a.gc, 0, none⟩ = some (.slice (some ⟨a.gr, 0, none⟩) 3 a.cr) := fun X hX => ⟨hX.has.2.1.1, hX.has.2.2.1.1, hX.br.cell 0, hX.br.cell 1, hX.br.free 0, hX.br.free 1, hX.bt.cell 0, hX.has.1.1⟩
                  have Hz := Lib.hid hz
                  obtain ⟨z0, z1, z2, z3, z4, z5, z6, z7⟩ := hz _ hT
                  clear hz
                  go_upto_region 10 with fail
                  go_cut [] (fun wx => Ex w a 1 (p - 1) (p - 1) p [] wx)
                  case first =>
                    go_wp2_with fail
                    go_meet
                    exact (Ex.row hT rfl : Ex w a 1 (p - 1) (p - 1) p _ _).tail.tail.tail.tail.tail.tail.tail.tail
                  case rest =>
                    clear Hz z0 z1 z2 z3 z4 z5 z6 z7 hT
                    have hT := hcut
                    obtain ⟨t0, k0, x0, x1⟩ := (show wc.cell? ⟨a.t, 0, none⟩ = some (.slice (some ⟨a.gc, 0, none⟩) 1 a.cc) ∧ wc.cell? ⟨a.gc, 0, none⟩ = some (.slice (some ⟨a.gr, 0, none⟩) 3 a.cr) ∧ wc.cell? ⟨a.gr, 0, none⟩ = some (.int .u64 1) ∧ wc.cell? ⟨a.gr, 1, none⟩ = some (.int .u64 p) from ⟨hT.bt.cell 0, hT.has.1.1, hT.br.cell 0, hT.br.cell 1⟩)
                    go_wp2_with fail
                    refine wp_loop_rounds 2 ?_
                    rw [rounds_succ]
                    go_upto_region 18 with fail
                    obtain ⟨W9, hW9⟩ : ∃ W9, W9 = wc.alloc (.cells #[.int .u64 1, .int .u64 p] 153) := ⟨_, rfl⟩
                    have hT9 := Ex.new hT (.cells #[.int .u64 1, .int .u64 p] 153)
                    rw [← hW9] at hT9
                    first | rw [← hW9] | skip
                    have HT9 := Lib.hid hT9
                    clear hW9 hT9
                    go_wp2_with fail
                    rw [rounds_succ]
                    go_wp2_with fail
                    go_end0
                    exact ⟨rfl, HT9.out⟩
end Go.Proofs.YtemcdnppgnobmaaGreatDoor
