/-
  The walk of frac's whole, of a row of two ones and a one behind it.
-/
import Derived.Test.YtemcdnppgnobmaaGreatDoorFil
set_option linter.unusedVariables false
namespace Go.Proofs.YtemcdnppgnobmaaGreatDoor
open Go.RowKit

/-- An append whose run is known, in a region that draws its order. -/
theorem step_append_run {P : Program} {w w' : World} {ops : Array Oper} {o : Oper} {a : Act} {K : Act → World → Prop} {Q : Exit → Act → World → Prop} {E : Prop} {s x : Operand} {ts : Array TypeId} {sv xv v : Value}
    (hgd : o.guard = none) (ho : o.op = .call { callee := .builtin .append, args := #[s, x], argTypes := ts }) (hs : a.eval s = sv) (hx : a.eval x = xv)
    (hrun : (Builtin.append_ ts o.type #[sv, xv]).run P w = .ok v w') (h : K (a.put o.dst v) w') : if Region.wanted o (yielded ops a.tmps) = true then Oper.wp P o a w K Q else E := by
  have hw : Region.wanted o (yielded ops a.tmps) = true := by simp [Region.wanted, hgd]
  rw [if_pos hw]
  unfold Oper.wp
  simp [execOp, ho, resolve, invoke, builtin, hs, hx, hrun, Result.andThen]
  exact h

/-- The cells of fractions that are 1. -/
def oneQ (g k : Nat) (A : Option Addr) : List (Nat × Nat × Value) := [(g, k, .bool false), (g, k + 1, .slice A 1 1), (g, k + 2, .slice none 0 0)]

/-- One more fraction behind two that fill their row. -/
theorem app_rat {X : World} {gw h : Nat} {D E : Option Addr} (h0 : Has (oneQ gw 0 D) X) (h3 : Has (oneQ gw 3 D) X) (hl : Blk X h 68 #[.bool false, .slice E 1 1, .slice none 0 0]) :
    ∃ C X', (Builtin.append_ #[74, 74] 74 #[.slice (some ⟨gw, 0, none⟩) 2 2, .slice (some ⟨h, 0, none⟩) 1 1]).run Tryz.prog X = .ok (.slice (some ⟨X.heap.size, 0, none⟩) 3 C) X' ∧
      Has (oneQ X.heap.size 0 D ++ (oneQ X.heap.size 3 D ++ oneQ X.heap.size 6 E)) X' ∧ Below X.heap.size X X' := by
  obtain ⟨i0, hi, hz, hs, hb⟩ := info_parts info_rat
  have hr := run_append_grow (P := Tryz.prog) X 74 74 68 i0 _ Tryz.underlying74 hi hz ⟨gw, 0, none⟩ 2 2 [.bool false, .slice D 1 1, .slice none 0 0, .bool false, .slice D 1 1, .slice none 0 0] (by rw [hs]; rfl) (by
      intro j v hj
      rw [add_at, Nat.zero_add]
      match j with
      | 0 => simp at hj; subst hj; exact h0.1.1
      | 1 => simp at hj; subst hj; exact h0.2.1.1
      | 2 => simp at hj; subst hj; exact h0.2.2.1.1
      | 3 => simp at hj; subst hj; exact h3.1.1
      | 4 => simp at hj; subst hj; exact h3.2.1.1
      | 5 => simp at hj; subst hj; exact h3.2.2.1.1
      | j + 6 => simp at hj) ⟨h, 0, none⟩ 1 1 [.bool false, .slice E 1 1, .slice none 0 0] (by rw [hs]; rfl) (World.news_of_block hl) (by omega) (by omega) (by
      have := growslice_fits (need := 2 + 1) (old := 2) (bytes := i0.bytes) (by omega) (by rw [hb]; omega)
      omega)
  have hbk := Blk.new X.drew 68 ([Value.bool false, .slice D 1 1, .slice none 0 0, .bool false, .slice D 1 1, .slice none 0 0].toArray ++ [Value.bool false, .slice E 1 1, .slice none 0 0].toArray ++ Builtin.zeroCells (Value.agg #[.bool false, .slice none 0 0, .slice none 0 0]).cells (grownCap X (2 + 1) 2 68 - (2 + 1)))
  have hc : ∀ j v, j < 9 → [Value.bool false, .slice D 1 1, .slice none 0 0, .bool false, .slice D 1 1, .slice none 0 0, .bool false, .slice E 1 1, .slice none 0 0][j]? = some v → (X.drew.alloc (.cells ([Value.bool false, .slice D 1 1, .slice none 0 0, .bool false, .slice D 1 1, .slice none 0 0].toArray ++ [Value.bool false, .slice E 1 1, .slice none 0 0].toArray ++ Builtin.zeroCells (Value.agg #[.bool false, .slice none 0 0, .slice none 0 0]).cells (grownCap X (2 + 1) 2 68 - (2 + 1))) 68)).cell? ⟨X.heap.size, j, none⟩ = some v := by
    intro j v hj hv
    have := hbk.cell j
    rw [show X.drew.heap.size = X.heap.size from rfl] at this
    rw [this, Array.getElem?_append_left (by simp; omega)]
    simpa using hv
  have hlt : X.heap.size < (X.drew.alloc (.cells ([Value.bool false, .slice D 1 1, .slice none 0 0, .bool false, .slice D 1 1, .slice none 0 0].toArray ++ [Value.bool false, .slice E 1 1, .slice none 0 0].toArray ++ Builtin.zeroCells (Value.agg #[.bool false, .slice none 0 0, .slice none 0 0]).cells (grownCap X (2 + 1) 2 68 - (2 + 1))) 68)).heap.size := by
    rw [World.size_alloc]; exact Nat.lt_succ_self _
  exact ⟨_, _, hr, ⟨⟨hc 0 _ (by omega) rfl, hlt⟩, ⟨hc 1 _ (by omega) rfl, hlt⟩, ⟨hc 2 _ (by omega) rfl, hlt⟩, ⟨hc 3 _ (by omega) rfl, hlt⟩, ⟨hc 4 _ (by omega) rfl, hlt⟩, ⟨hc 5 _ (by omega) rfl, hlt⟩, ⟨hc 6 _ (by omega) rfl, hlt⟩, ⟨hc 7 _ (by omega) rfl, hlt⟩, ⟨hc 8 _ (by omega) rfl, hlt⟩, trivial⟩, (Below.refl _ _).drew.alloc (by simp) _⟩

/-- The digits of 1 are one. -/
theorem Dg.one {w : World} {A : Option Addr} {n x : Nat} (h : Dg w A n x) (hx : x = 1 := by rfl) : n = 1 := by subst hx; exact h.len.symm

theorem info_int : (Tryz.prog.info? 25).map (fun i => (i.zero, i.size, i.bytes)) = some (some (.agg #[.bool false, .slice none 0 0]), 2, 32) := by kernel_rfl
theorem run_makeInt3 (W : World) : (Instr.makeSlice 129 (.int .i64 0) (.int .i64 3)).run Tryz.prog W = .ok (.slice (some ⟨W.heap.size, 0, none⟩) 0 3) (W.alloc (.cells #[.bool false, .slice none 0 0, .bool false, .slice none 0 0, .bool false, .slice none 0 0] 25)) := by
  obtain ⟨i0, h0, hz, hs, hb⟩ := info_parts info_int
  have hr := run_make (P := Tryz.prog) W 129 25 i0 _ Tryz.underlying129 h0 hz .i64 .i64 0 3 (by omega) (by omega) (by rw [hb]; omega) (by omega)
  rw [hs, show madeCells (Value.agg #[.bool false, .slice none 0 0]).cells (Int.toNat 3 * 2) = #[.bool false, .slice none 0 0, .bool false, .slice none 0 0, .bool false, .slice none 0 0] from by kernel_rfl] at hr
  exact hr

/-- An integer is appended to a row that has room. -/
theorem app_int {X : World} {g h k : Nat} {cs : Array Value} {u v : Value} (hb : Blk X g 25 cs) (hsz : cs.size = 6) (hk : k < 3) (hl : Blk X h 25 #[u, v]) (hu : u.oneCell' = true) (hv : v.oneCell' = true) :
    ∃ X', (Builtin.append_ #[129, 129] 129 #[.slice (some ⟨g, 0, none⟩) k 3, .slice (some ⟨h, 0, none⟩) 1 1]).run Tryz.prog X = .ok (.slice (some ⟨g, 0, none⟩) (k + 1) 3) X' ∧
      Blk X' g 25 (cs.toList.take (k * 2) ++ [u, v] ++ cs.toList.drop (k * 2 + 2)).toArray ∧ Only g X X' := by
  obtain ⟨i0, h0, hz, hs, hbb⟩ := info_parts info_int
  have hr := run_append_room (P := Tryz.prog) X 129 129 25 i0 Tryz.underlying129 h0 g k 3 cs hb ⟨h, 0, none⟩ 1 1 [u, v] (by rw [hs]; rfl) (World.news_of_block hl) (by
    intro x hx
    simp only [List.mem_cons, List.not_mem_nil, or_false] at hx
    rcases hx with rfl | rfl <;> assumption) (by omega) (by rw [hs, hsz]; simp; omega)
  rw [hs] at hr
  refine ⟨_, hr, setRow_heap X g cs _ _ _ hb, ⟨rfl, rfl, rfl, by simp [World.setRow], fun j hj => setRow_other X g j _ hj⟩⟩

/-- The append that both loops of whole are over: its run in a region that draws, with the literal of one fraction ahead. -/
theorem app_drawn {W : World} {gw : Nat} {D E : Option Addr} (h0 : Has (oneQ gw 0 D) W) (h3 : Has (oneQ gw 3 D) W) :
    ∃ g C X', (Builtin.append_ #[74, 74] 74 #[.slice (some ⟨gw, 0, none⟩) 2 2, .slice (some ⟨W.heap.size, 0, none⟩) 1 1]).run Tryz.prog (W.drew.alloc (.cells #[.bool false, .slice E 1 1, .slice none 0 0] 68)) = .ok (.slice (some ⟨g, 0, none⟩) 3 C) X' ∧
      Has (oneQ g 0 D ++ (oneQ g 3 D ++ oneQ g 6 E)) X' ∧ Below W.heap.size W X' ∧ W.heap.size ≤ g := by
  have hbx : Below W.heap.size W (W.drew.alloc (.cells #[.bool false, .slice E 1 1, .slice none 0 0] 68)) := (Below.refl _ _).drew.alloc (Nat.le_refl _) _
  obtain ⟨C, X', hr, hh, hb⟩ := app_rat (X := W.drew.alloc (.cells #[.bool false, .slice E 1 1, .slice none 0 0] 68)) (h := W.heap.size) (h0.keep hbx) (h3.keep hbx) (Blk.new W.drew 68 _)
  exact ⟨_, C, X', hr, hh, hbx.and hb, by simp⟩

/-- A slice and an integer in a cell are returned. -/
theorem ret_whole {fn : Func} {Rr : Ending → World → Prop} {a : Act} {w1 : World} {s t g d : Nat} {v x y : Value}
    (hf : fn.results = #[.tmp t, .cell s 25]) (h4 : a.tmps[s]? = some (.pointer (some ⟨g, 0, none⟩))) (h5 : a.tmps[t]? = some v) (hd : a.defers = [])
    (hb : Blk w1 g 25 #[x, y]) (hR : ∀ w', Only g w1 w' → Rr (.returned (.tuple #[v, .agg #[.bool false, .slice (some ⟨d, 0, none⟩) 1 1]])) w') :
    bodyPost Tryz.prog fn Rr .ret a ((w1.setCell ⟨g, 0, none⟩ (.bool false)).setCell ⟨g, 1, none⟩ (.slice (some ⟨d, 0, none⟩) 1 1)) := by
  have ho := ((Only.refl g w1).setCell 0 (.bool false)).setCell 1 (.slice (some ⟨d, 0, none⟩) 1 1)
  have hb2 := Blk.set2 hb (.bool false) (.slice (some ⟨d, 0, none⟩) 1 1)
  have c0 := hb2.cell 0
  have c1 := hb2.cell 1
  exact bodyPost_ret (v := .tuple #[v, .agg #[.bool false, .slice (some ⟨d, 0, none⟩) 1 1]]) (by simp [results, hf, go_sem, c0, c1, h4, h5]) hd (hR _ ho)

theorem lower_one (A : Option Addr) (X : World) (hA : Dg X A 1 1) : Calls Tryz.prog 96 #[.agg #[.bool false, .slice A 1 1, .slice none 0 0]] X (RetVal 1 X) := by
  have h1 := lower_any A none 1 0 (1 : Rat) X ⟨hA, Sl.nil⟩
  exact h1

/-- A quotient that is 1. -/
def RetQuo (w : World) (e : Ending) (w' : World) : Prop := ∃ Q R r, e = .returned (.tuple #[.slice Q 1 1, .slice R r r]) ∧ Dg w' Q 1 1 ∧ Below w.heap.size w w'
theorem divide_one (A B : Option Addr) (X : World) (hA : Dg X A 1 1) (hB : Dg X B 1 1) : Calls Tryz.prog 45 #[.slice A 1 1, .slice B 1 1] X (RetQuo X) := by
  refine (divide_any A B 1 1 1 1 1 X hA hB (by omega) (by omega)).mono ?_
  rintro e w' ⟨Q, q, R, r, rfl, h1, _, hb, _, _⟩
  obtain rfl := Dg.one h1
  exact ⟨Q, R, r, rfl, h1, hb⟩
theorem signed_one (A : Option Addr) (X : World) (hA : Dg X A 1 1) : Calls Tryz.prog 41 #[.bool false, .slice A 1 1] X (fun e w' => e = .returned (.agg #[.bool false, .slice A 1 1]) ∧ Dg w' A 1 1 ∧ Below X.heap.size X w') :=
  signed_any false A 1 1 1 X hA rfl
theorem times_one (A B : Option Addr) (X : World) (hA : Dg X A 1 1) (hB : Dg X B 1 1) : Calls Tryz.prog 32 #[.agg #[.bool false, .slice A 1 1], .agg #[.bool false, .slice B 1 1]] X (fun e w' => ∃ T, e = .returned (.agg #[.bool false, .slice T 1 1]) ∧ Dg w' T 1 1 ∧ Below X.heap.size X w') := by
  refine (times_any A B 1 1 1 1 X hA hB (by omega) (by omega)).mono ?_
  rintro e w' ⟨T, m, rfl, h1, hb⟩
  obtain rfl := Dg.one h1
  exact ⟨T, rfl, h1, hb⟩
theorem ints_free (a b c : Value) (ha : ∀ z, a ≠ .int .u32 z) (hb : ∀ z, b ≠ .int .u32 z) (hc : ∀ z, c ≠ .int .u32 z) : ∀ (i : Nat) (z : Int), (#[Value.bool false, a, .bool false, b, .bool false, c] : Array Value)[i]? ≠ some (Value.int .u32 z) := by
  intro i z
  match i with
  | 0 => simp
  | 1 => simpa using ha z
  | 2 => simp
  | 3 => simpa using hb z
  | 4 => simp
  | 5 => simpa using hc z
  | i + 6 => simp
theorem nine_ne {gF gz : Nat} {D E : Option Addr} (h : gF ≠ gz) : ∀ c ∈ (oneQ gF 0 D ++ (oneQ gF 3 D ++ oneQ gF 6 E)), c.1 ≠ gz := by
  intro c hc
  simp only [oneQ, List.cons_append, List.nil_append, List.mem_cons, List.not_mem_nil, or_false] at hc
  rcases hc with rfl | rfl | rfl | rfl | rfl | rfl | rfl | rfl | rfl <;> exact h

set_option maxRecDepth 100000 in
set_option maxHeartbeats 3200000 in
theorem whole_ones (gw : Nat) (D E : Option Addr) (w : World) (h0 : Has (oneQ gw 0 D) w) (h3 : Has (oneQ gw 3 D) w) (hD : Dg w D 1 1) (hE : Dg w E 1 1) :
    Calls Tryz.prog 103 #[.slice (some ⟨gw, 0, none⟩) 2 2, .agg #[.bool false, .slice E 1 1, .slice none 0 0]] w (fun e w' => ∃ gz A0 A1 A2 d, e = .returned (.tuple #[.slice (some ⟨gz, 0, none⟩) 3 3, .agg #[.bool false, .slice (some ⟨d, 0, none⟩) 1 1]]) ∧
      Ones gz A0 A1 A2 w' ∧ Has [(d, 0, .int .u32 1)] w' ∧ Below w.heap.size w w' ∧ w.heap.size ≤ gz ∧ w.heap.size ≤ d) := by
  obtain ⟨W, hW, hbx, hres, hdg, hbel⟩ := three_new w 68 25 66 #[.bool false, .slice E 1 1, .slice none 0 0] #[.bool false, .slice none 0 0] #[.int .u32 1]
  have H0 := Lib.hid (h0.keep hbel)
  have H3 := Lib.hid (h3.keep hbel)
  have HD := Lib.hid (fun X (hX : Below w.heap.size w X) => hD.below hX)
  have HE := Lib.hid (fun X (hX : Below w.heap.size w X) => hE.below hX)
  have Hcells := Lib.hid (show ∀ X, Below W.heap.size W X → X.cell? ⟨w.heap.size, 0, none⟩ = some (.bool false) ∧ X.cell? ⟨w.heap.size, 1, none⟩ = some (.slice E 1 1) ∧ X.cell? ⟨w.heap.size, 2, none⟩ = some (.slice none 0 0) from fun X hX => ⟨(hbx.keep hX).cell 0, (hbx.keep hX).cell 1, (hbx.keep hX).cell 2⟩)
  have Happ := Lib.hid (app_drawn (W := W) (E := E) (h0.keep hbel) (h3.keep hbel))
  have HW := Lib.hid hW
  have Hbel := Lib.hid hbel
  have Hres := Lib.hid hres
  have Hdg := Lib.hid hdg
  obtain ⟨c0, c1, c2⟩ := Hcells.out _ (Below.refl _ _)
  have hmk := run_makeInt3
  have k0' : 0 < 3 := by omega
  have k1' : 1 < 3 := by omega
  have k2' : 2 < 3 := by omega
  clear hW hbel hres hdg hbx h0 h3 hD hE
  go_enter Tryz.func103, Tryz.ntmps103
  go_upto_region 2 with fail
  rw [← HW.out]
  clear HW
  go_cut [25, 26, 27] (fun s25 s26 s27 wx => ∃ gE C, s25 = .slice (some ⟨gE, 0, none⟩) 3 C ∧ s26 = .int .i64 3 ∧ s27 = .int .i64 0 ∧ Has (oneQ gE 0 D ++ (oneQ gE 3 D ++ oneQ gE 6 E)) wx ∧ Below W.heap.size W wx)
  case first =>
    go_region_held3 (fun w' => w'.cell? ⟨w.heap.size, 0, none⟩ = some (.bool false) ∧ w'.cell? ⟨w.heap.size, 1, none⟩ = some (.slice E 1 1) ∧ w'.cell? ⟨w.heap.size, 2, none⟩ = some (.slice none 0 0))
      (first | exact Hcells.out _ (Below.refl _ _) | exact Hcells.out _ (Below.drew (Below.refl _ _)) | exact Hcells.out _ (Below.alloc (Below.drew (Below.refl _ _)) (Nat.le_refl _) _) | exact Hcells.out _ hb1 | go_keep)
      (first | (obtain ⟨g1, C1, X1, hrun1, hq1, hb1, hl1⟩ := Happ.out; refine step_append_run rfl rfl rfl rfl hrun1 ?_))
    all_goals
      go_wp2_with fail
      go_meet
      exact ⟨_, _, rfl, rfl, rfl, hq1, hb1⟩
  case rest =>
    obtain ⟨gE, C, rfl, rfl, rfl, hq, hb⟩ := hcut
    clear c0 c1 c2 Happ
    obtain ⟨⟨x0, lE⟩, ⟨x1, _⟩, ⟨x2, _⟩, ⟨x3, _⟩, ⟨x4, _⟩, ⟨x5, _⟩, ⟨x6, _⟩, ⟨x7, _⟩, ⟨x8, _⟩, _⟩ := hq
    go_upto_region 3 with fail
    refine wp_loop_rounds 4 ?_
    rw [rounds_succ]
    go_upto_region 8 with fail
    obtain ⟨L1, hL1⟩ : ∃ L1, L1 = wc.alloc (.cells #[.bool false, .slice D 1 1, .slice none 0 0] 68) := ⟨_, rfl⟩
    have hbL1 : Below wc.heap.size wc L1 := by rw [hL1]; exact below_new _ _
    rw [← hL1]
    replace hq := Has.keep (L := (oneQ gE 0 D ++ (oneQ gE 3 D ++ oneQ gE 6 E))) ⟨⟨x0, lE⟩, ⟨x1, lE⟩, ⟨x2, lE⟩, ⟨x3, lE⟩, ⟨x4, lE⟩, ⟨x5, lE⟩, ⟨x6, lE⟩, ⟨x7, lE⟩, ⟨x8, lE⟩, trivial⟩ hbL1
    replace hb := hb.and hbL1
    clear hL1 hbL1 x0 x1 x2 x3 x4 x5 x6 x7 x8 lE
    obtain ⟨⟨x0, lE⟩, ⟨x1, _⟩, ⟨x2, _⟩, ⟨x3, _⟩, ⟨x4, _⟩, ⟨x5, _⟩, ⟨x6, _⟩, ⟨x7, _⟩, ⟨x8, _⟩, _⟩ := hq
    go_wp2_with fail
    rw [rounds_succ]
    go_upto_region 8 with fail
    obtain ⟨L2, hL2⟩ : ∃ L2, L2 = L1.alloc (.cells #[.bool false, .slice D 1 1, .slice none 0 0] 68) := ⟨_, rfl⟩
    have hbL2 : Below L1.heap.size L1 L2 := by rw [hL2]; exact below_new _ _
    rw [← hL2]
    replace hq := Has.keep (L := (oneQ gE 0 D ++ (oneQ gE 3 D ++ oneQ gE 6 E))) ⟨⟨x0, lE⟩, ⟨x1, lE⟩, ⟨x2, lE⟩, ⟨x3, lE⟩, ⟨x4, lE⟩, ⟨x5, lE⟩, ⟨x6, lE⟩, ⟨x7, lE⟩, ⟨x8, lE⟩, trivial⟩ hbL2
    replace hb := hb.and hbL2
    clear hL2 hbL2 x0 x1 x2 x3 x4 x5 x6 x7 x8 lE
    obtain ⟨⟨x0, lE⟩, ⟨x1, _⟩, ⟨x2, _⟩, ⟨x3, _⟩, ⟨x4, _⟩, ⟨x5, _⟩, ⟨x6, _⟩, ⟨x7, _⟩, ⟨x8, _⟩, _⟩ := hq
    go_wp2_with fail
    rw [rounds_succ]
    go_upto_region 8 with fail
    obtain ⟨L3, hL3⟩ : ∃ L3, L3 = L2.alloc (.cells #[.bool false, .slice E 1 1, .slice none 0 0] 68) := ⟨_, rfl⟩
    have hbL3 : Below L2.heap.size L2 L3 := by rw [hL3]; exact below_new _ _
    rw [← hL3]
    replace hq := Has.keep (L := (oneQ gE 0 D ++ (oneQ gE 3 D ++ oneQ gE 6 E))) ⟨⟨x0, lE⟩, ⟨x1, lE⟩, ⟨x2, lE⟩, ⟨x3, lE⟩, ⟨x4, lE⟩, ⟨x5, lE⟩, ⟨x6, lE⟩, ⟨x7, lE⟩, ⟨x8, lE⟩, trivial⟩ hbL3
    replace hb := hb.and hbL3
    clear hL3 hbL3 x0 x1 x2 x3 x4 x5 x6 x7 x8 lE
    obtain ⟨⟨x0, lE⟩, ⟨x1, _⟩, ⟨x2, _⟩, ⟨x3, _⟩, ⟨x4, _⟩, ⟨x5, _⟩, ⟨x6, _⟩, ⟨x7, _⟩, ⟨x8, _⟩, _⟩ := hq
    go_wp2_with fail
    rw [rounds_succ]
    go_upto_region 10 with fail
    obtain ⟨Y, hY⟩ : ∃ Y, Y = L3.alloc (.cells #[.bool false, .slice none 0 0, .bool false, .slice none 0 0, .bool false, .slice none 0 0] 25) := ⟨_, rfl⟩
    have hbY : Below L3.heap.size L3 Y := by rw [hY]; exact below_new _ _
    have hzY : Blk Y L3.heap.size 25 #[.bool false, .slice none 0 0, .bool false, .slice none 0 0, .bool false, .slice none 0 0] := by rw [hY]; exact Blk.new _ _ _
    rw [← hY]
    have hbWY := hb.and hbY
    have hzw : W.heap.size ≤ L3.heap.size := hb.size
    obtain ⟨gz, hgz⟩ : ∃ gz, L3.heap.size = gz := ⟨_, rfl⟩
    rw [hgz] at hzY hzw ⊢
    clear hY hbY x0 x1 x2 x3 x4 x5 x6 x7 x8 lE hb hgz
    have Happ2 := Lib.hid (app_drawn (W := Y) (E := E) (H0.out.keep hbWY) (H3.out.keep hbWY))
    have Hcy := Lib.hid (fun X (hX : Below Y.heap.size Y X) => Hcells.out X (hbWY.and hX))
    obtain ⟨c0, c1, c2⟩ := Hcy.out _ (Below.refl _ _)
    have HzY := Lib.hid hzY
    clear hzY
    go_cut [61, 62, 63] (fun s61 s62 s63 wx => ∃ gF C, s61 = .slice (some ⟨gF, 0, none⟩) 3 C ∧ s62 = .int .i64 3 ∧ s63 = .int .i64 0 ∧ Has (oneQ gF 0 D ++ (oneQ gF 3 D ++ oneQ gF 6 E)) wx ∧ Below Y.heap.size Y wx ∧ Y.heap.size ≤ gF)
    case first =>
      go_region_held3 (fun w' => w'.cell? ⟨w.heap.size, 0, none⟩ = some (.bool false) ∧ w'.cell? ⟨w.heap.size, 1, none⟩ = some (.slice E 1 1) ∧ w'.cell? ⟨w.heap.size, 2, none⟩ = some (.slice none 0 0))
        (first | exact Hcy.out _ (Below.refl _ _) | exact Hcy.out _ (Below.drew (Below.refl _ _)) | exact Hcy.out _ (Below.alloc (Below.drew (Below.refl _ _)) (Nat.le_refl _) _) | exact Hcy.out _ hb1 | go_keep)
        (first | (obtain ⟨g1, C1, X1, hrun1, hq1, hb1, hl1⟩ := Happ2.out; refine step_append_run rfl rfl rfl rfl hrun1 ?_))
      all_goals
        go_wp2_with fail
        go_meet
        exact ⟨_, _, rfl, rfl, rfl, hq1, hb1, hl1⟩
    case rest =>
      obtain ⟨gF, C2, rfl, rfl, rfl, hq, hbF, hlF⟩ := hcut
      have nF : gF ≠ gz := by have := HzY.out.lt; omega
      have hz : Blk wc gz 25 #[.bool false, .slice none 0 0, .bool false, .slice none 0 0, .bool false, .slice none 0 0] := HzY.out.keep hbF
      have hb := hbWY.and hbF
      clear c0 c1 c2 Happ2 Hcy HzY hbF hbWY H0 H3
      have hlow := Lib.hid (show ∀ (A : Option Addr) (X : World), Dg X A 1 1 → Calls Tryz.prog 96 #[.agg #[.bool false, .slice A 1 1, .slice none 0 0]] X (RetVal 1 X) from fun A X hA => lower_one A X hA)
      have hdiv := Lib.hid (show ∀ (B : Option Addr) (X : World), Dg X (some ⟨w.heap.size + 1 + 1, 0, none⟩) 1 1 → Dg X B 1 1 → Calls Tryz.prog 45 #[.slice (some ⟨w.heap.size + 1 + 1, 0, none⟩) 1 1, .slice B 1 1] X (RetQuo X) from fun B X hA hB => divide_one _ B X hA hB)
      have hsgn := Lib.hid (fun (A : Option Addr) (X : World) (hX : Dg X A 1 1) => signed_one A X hX)
      have htim := Lib.hid (fun (A B : Option Addr) (X : World) (hA : Dg X A 1 1) (hB : Dg X B 1 1) => times_one A B X hA hB)
      have HDd := Lib.hid (show ∀ X, Below W.heap.size W X → Dg X (some ⟨w.heap.size + 1 + 1, 0, none⟩) 1 1 from fun X hX => dg_one ((Hdg.out.keep hX).cell 0) (Hdg.out.keep hX).lt)
      obtain ⟨⟨x0, lE⟩, ⟨x1, _⟩, ⟨x2, _⟩, ⟨x3, _⟩, ⟨x4, _⟩, ⟨x5, _⟩, ⟨x6, _⟩, ⟨x7, _⟩, ⟨x8, _⟩, _⟩ := hq
      go_upto_region 11 with fail
      refine wp_loop_rounds 4 ?_
      rw [rounds_succ]
      go_upto_region 13 with fail
      obtain ⟨P0, hP0⟩ : ∃ P0, P0 = wc.alloc (.cells #[.bool false, .slice D 1 1, .slice none 0 0] 68) := ⟨_, rfl⟩
      have hbP0 : Below wc.heap.size wc P0 := by rw [hP0]; exact below_new _ _
      have hxP0 : Blk P0 wc.heap.size 68 #[.bool false, .slice D 1 1, .slice none 0 0] := by rw [hP0]; exact Blk.new _ _ _
      have lz0 : gz < wc.heap.size := hz.lt
      have lF0 : gF < wc.heap.size := lE
      rw [← hP0]
      obtain ⟨bx0, hbx0⟩ : ∃ bx, wc.heap.size = bx := ⟨_, rfl⟩
      rw [hbx0] at hxP0 lz0 lF0 ⊢
      clear hP0
      obtain ⟨y0, y1, y2, _, _, _⟩ := hxP0.three
      go_upto_region 14 with (first
        | (go_at_call 96; refine (hlow.out D _ (HD.out _ (Below.and Hbel.out (Below.and hb hbP0)))).mono ?_; rintro e v0 ⟨Lo0, lo, rfl, hlo0, hbl0⟩; obtain rfl := Dg.one hlo0 rfl)
        | (go_at_call 45; refine (hdiv.out Lo0 _ (HDd.out _ (Below.and hb (Below.and hbP0 hbl0))) hlo0).mono ?_; rintro e u0 ⟨Q0, R0, rr0, rfl, hq0, hbq0⟩))
      have hbU0 : Below wc.heap.size wc u0 := hbP0.and (hbl0.and hbq0)
      have hxU0 := (hxP0.keep hbl0).keep hbq0
      have hzU0 := hz.keep hbU0
      have hbWU0 := hb.and hbU0
      have HAj0 := Lib.hid (fun X (hX : Below u0.heap.size u0 X) => HD.out X (Hbel.out.and (hbWU0.and hX)))
      have Hco0 := Lib.hid (show ∀ X, Below u0.heap.size u0 X → X.cell? ⟨bx0, 0, none⟩ = some (.bool false) ∧ X.cell? ⟨bx0, 1, none⟩ = some (.slice D 1 1) from fun X hX => ⟨(hxU0.keep hX).cell 0, (hxU0.keep hX).cell 1⟩)
      have Hcp0 := Lib.hid (show ∀ X Y, Below u0.heap.size u0 X → Only gz X Y → Y.cell? ⟨bx0, 0, none⟩ = some (.bool false) ∧ Y.cell? ⟨bx0, 1, none⟩ = some (.slice D 1 1) from fun X Y hX hY => ⟨(hY.cell (p := ⟨bx0, 0, none⟩) (by simp; omega)).trans ((hxU0.keep hX).cell 0), (hY.cell (p := ⟨bx0, 1, none⟩) (by simp; omega)).trans ((hxU0.keep hX).cell 1)⟩)
      replace hq := (Has.keep (L := (oneQ gF 0 D ++ (oneQ gF 3 D ++ oneQ gF 6 E))) ⟨⟨x0, lE⟩, ⟨x1, lE⟩, ⟨x2, lE⟩, ⟨x3, lE⟩, ⟨x4, lE⟩, ⟨x5, lE⟩, ⟨x6, lE⟩, ⟨x7, lE⟩, ⟨x8, lE⟩, trivial⟩ hbU0)
      obtain ⟨a0, a1⟩ := Hco0.out _ (Below.refl _ _)
      clear hbP0 hxP0 hbl0 hbq0 y0 y1 y2 x0 x1 x2 x3 x4 x5 x6 x7 x8 lE hxU0 hlo0
      go_region_held3 (fun w' => w'.cell? ⟨bx0, 0, none⟩ = some (.bool false) ∧ w'.cell? ⟨bx0, 1, none⟩ = some (.slice D 1 1))
        (first | exact ⟨a0, a1⟩ | exact Hco0.out _ (Below.drew (Below.refl _ _)) | exact Hco0.out _ hbs0' | exact Hco0.out _ hbt0' | exact Hco0.out _ (Below.more hbt0' _) | exact Hcp0.out _ _ (Below.more hbt0' _) hro0)
        (first
        | (go_at_call 41; refine (hsgn.out Q0 _ (Dg.below hq0 (Below.drew (Below.refl _ _)))).mono ?_; rintro e s0 ⟨rfl, hs0, hbs0⟩; have hbs0' := Below.and (Below.drew (Below.refl u0.heap.size u0)) hbs0)
        | (go_at_call 32; refine (htim.out D Q0 _ (HAj0.out _ hbs0') hs0).mono ?_; rintro e t0 ⟨T0, rfl, ht0, hbt0⟩; have hbt0' := Below.and hbs0' hbt0; obtain ⟨Z0, hrun0, hrb0, hro0⟩ := app_int (X := t0.alloc (.cells #[.bool false, .slice T0 1 1] 25)) (h := t0.heap.size) (Blk.keep (Blk.keep hzU0 hbt0') (below_new _ (.cells #[.bool false, .slice T0 1 1] 25))) rfl k0' (Blk.new t0 25 #[.bool false, .slice T0 1 1]) rfl rfl)
        | (refine step_append_run rfl rfl rfl rfl hrun0 ?_))
      have hbV0 : Below u0.heap.size u0 (t0.alloc (.cells #[.bool false, .slice T0 1 1] 25)) := hbt0'.more _
      have hzV0 := Blk.keep hzU0 hbV0
      have hzN0 : Blk Z0 gz 25 #[.bool false, .slice T0 1 1, .bool false, .slice none 0 0, .bool false, .slice none 0 0] := hrb0
      replace hq := Has.only (Has.keep hq hbV0) hro0 (nine_ne (show gF ≠ gz from nF))
      have hbN : Below W.heap.size W Z0 := (hbWU0.and hbV0).trans (hro0.below hzw)
      have hT0 := (ht0.below (below_new _ (.cells #[.bool false, .slice T0 1 1] 25))).only hro0 hzV0 (ints_free _ _ _ (by simp) (by simp) (by simp))
      obtain ⟨⟨x0, lE⟩, ⟨x1, _⟩, ⟨x2, _⟩, ⟨x3, _⟩, ⟨x4, _⟩, ⟨x5, _⟩, ⟨x6, _⟩, ⟨x7, _⟩, ⟨x8, _⟩, _⟩ := hq
      replace hb := hbN
      replace hz := hzN0
      clear hzN0 hbN hzV0 hbV0 hrun0 hrb0 hro0 ht0 hs0 hbs0 hbs0' hbt0 hbt0' hzU0 hbWU0 hbU0 HAj0 Hco0 Hcp0 a0 a1 hq0
      go_wp2_with fail
      rw [rounds_succ]
      go_upto_region 13 with fail
      obtain ⟨P1, hP1⟩ : ∃ P1, P1 = Z0.alloc (.cells #[.bool false, .slice D 1 1, .slice none 0 0] 68) := ⟨_, rfl⟩
      have hbP1 : Below Z0.heap.size Z0 P1 := by rw [hP1]; exact below_new _ _
      have hxP1 : Blk P1 Z0.heap.size 68 #[.bool false, .slice D 1 1, .slice none 0 0] := by rw [hP1]; exact Blk.new _ _ _
      have lz1 : gz < Z0.heap.size := hz.lt
      have lF1 : gF < Z0.heap.size := lE
      rw [← hP1]
      obtain ⟨bx1, hbx1⟩ : ∃ bx, Z0.heap.size = bx := ⟨_, rfl⟩
      rw [hbx1] at hxP1 lz1 lF1 ⊢
      clear hP1
      obtain ⟨y0, y1, y2, _, _, _⟩ := hxP1.three
      go_upto_region 14 with (first
        | (go_at_call 96; refine (hlow.out D _ (HD.out _ (Below.and Hbel.out (Below.and hb hbP1)))).mono ?_; rintro e v1 ⟨Lo1, lo, rfl, hlo1, hbl1⟩; obtain rfl := Dg.one hlo1 rfl)
        | (go_at_call 45; refine (hdiv.out Lo1 _ (HDd.out _ (Below.and hb (Below.and hbP1 hbl1))) hlo1).mono ?_; rintro e u1 ⟨Q1, R1, rr1, rfl, hq1, hbq1⟩))
      have hbU1 : Below Z0.heap.size Z0 u1 := hbP1.and (hbl1.and hbq1)
      have hxU1 := (hxP1.keep hbl1).keep hbq1
      have hzU1 := hz.keep hbU1
      have hbWU1 := hb.and hbU1
      have HAj1 := Lib.hid (fun X (hX : Below u1.heap.size u1 X) => HD.out X (Hbel.out.and (hbWU1.and hX)))
      have Hco1 := Lib.hid (show ∀ X, Below u1.heap.size u1 X → X.cell? ⟨bx1, 0, none⟩ = some (.bool false) ∧ X.cell? ⟨bx1, 1, none⟩ = some (.slice D 1 1) from fun X hX => ⟨(hxU1.keep hX).cell 0, (hxU1.keep hX).cell 1⟩)
      have Hcp1 := Lib.hid (show ∀ X Y, Below u1.heap.size u1 X → Only gz X Y → Y.cell? ⟨bx1, 0, none⟩ = some (.bool false) ∧ Y.cell? ⟨bx1, 1, none⟩ = some (.slice D 1 1) from fun X Y hX hY => ⟨(hY.cell (p := ⟨bx1, 0, none⟩) (by simp; omega)).trans ((hxU1.keep hX).cell 0), (hY.cell (p := ⟨bx1, 1, none⟩) (by simp; omega)).trans ((hxU1.keep hX).cell 1)⟩)
      replace hq := (Has.keep (L := (oneQ gF 0 D ++ (oneQ gF 3 D ++ oneQ gF 6 E))) ⟨⟨x0, lE⟩, ⟨x1, lE⟩, ⟨x2, lE⟩, ⟨x3, lE⟩, ⟨x4, lE⟩, ⟨x5, lE⟩, ⟨x6, lE⟩, ⟨x7, lE⟩, ⟨x8, lE⟩, trivial⟩ hbU1)
      obtain ⟨a0, a1⟩ := Hco1.out _ (Below.refl _ _)
      clear hbP1 hxP1 hbl1 hbq1 y0 y1 y2 x0 x1 x2 x3 x4 x5 x6 x7 x8 lE hxU1 hlo1
      go_region_held3 (fun w' => w'.cell? ⟨bx1, 0, none⟩ = some (.bool false) ∧ w'.cell? ⟨bx1, 1, none⟩ = some (.slice D 1 1))
        (first | exact ⟨a0, a1⟩ | exact Hco1.out _ (Below.drew (Below.refl _ _)) | exact Hco1.out _ hbs1' | exact Hco1.out _ hbt1' | exact Hco1.out _ (Below.more hbt1' _) | exact Hcp1.out _ _ (Below.more hbt1' _) hro1)
        (first
        | (go_at_call 41; refine (hsgn.out Q1 _ (Dg.below hq1 (Below.drew (Below.refl _ _)))).mono ?_; rintro e s1 ⟨rfl, hs1, hbs1⟩; have hbs1' := Below.and (Below.drew (Below.refl u1.heap.size u1)) hbs1)
        | (go_at_call 32; refine (htim.out D Q1 _ (HAj1.out _ hbs1') hs1).mono ?_; rintro e t1 ⟨T1, rfl, ht1, hbt1⟩; have hbt1' := Below.and hbs1' hbt1; obtain ⟨Z1, hrun1, hrb1, hro1⟩ := app_int (X := t1.alloc (.cells #[.bool false, .slice T1 1 1] 25)) (h := t1.heap.size) (Blk.keep (Blk.keep hzU1 hbt1') (below_new _ (.cells #[.bool false, .slice T1 1 1] 25))) rfl k1' (Blk.new t1 25 #[.bool false, .slice T1 1 1]) rfl rfl)
        | (refine step_append_run rfl rfl rfl rfl hrun1 ?_))
      have hbV1 : Below u1.heap.size u1 (t1.alloc (.cells #[.bool false, .slice T1 1 1] 25)) := hbt1'.more _
      have hzV1 := Blk.keep hzU1 hbV1
      have hzN1 : Blk Z1 gz 25 #[.bool false, .slice T0 1 1, .bool false, .slice T1 1 1, .bool false, .slice none 0 0] := hrb1
      replace hq := Has.only (Has.keep hq hbV1) hro1 (nine_ne (show gF ≠ gz from nF))
      have hbN : Below W.heap.size W Z1 := (hbWU1.and hbV1).trans (hro1.below hzw)
      have hT1 := (ht1.below (below_new _ (.cells #[.bool false, .slice T1 1 1] 25))).only hro1 hzV1 (ints_free _ _ _ (by simp) (by simp) (by simp))
      replace hT0 := ((hT0.below hbU1).below hbV1).only hro1 hzV1 (ints_free _ _ _ (by simp) (by simp) (by simp))
      obtain ⟨⟨x0, lE⟩, ⟨x1, _⟩, ⟨x2, _⟩, ⟨x3, _⟩, ⟨x4, _⟩, ⟨x5, _⟩, ⟨x6, _⟩, ⟨x7, _⟩, ⟨x8, _⟩, _⟩ := hq
      replace hb := hbN
      replace hz := hzN1
      clear hzN1 hbN hzV1 hbV1 hrun1 hrb1 hro1 ht1 hs1 hbs1 hbs1' hbt1 hbt1' hzU1 hbWU1 hbU1 HAj1 Hco1 Hcp1 a0 a1 hq1
      go_wp2_with fail
      rw [rounds_succ]
      go_upto_region 13 with fail
      obtain ⟨P2, hP2⟩ : ∃ P2, P2 = Z1.alloc (.cells #[.bool false, .slice E 1 1, .slice none 0 0] 68) := ⟨_, rfl⟩
      have hbP2 : Below Z1.heap.size Z1 P2 := by rw [hP2]; exact below_new _ _
      have hxP2 : Blk P2 Z1.heap.size 68 #[.bool false, .slice E 1 1, .slice none 0 0] := by rw [hP2]; exact Blk.new _ _ _
      have lz2 : gz < Z1.heap.size := hz.lt
      have lF2 : gF < Z1.heap.size := lE
      rw [← hP2]
      obtain ⟨bx2, hbx2⟩ : ∃ bx, Z1.heap.size = bx := ⟨_, rfl⟩
      rw [hbx2] at hxP2 lz2 lF2 ⊢
      clear hP2
      obtain ⟨y0, y1, y2, _, _, _⟩ := hxP2.three
      go_upto_region 14 with (first
        | (go_at_call 96; refine (hlow.out E _ (HE.out _ (Below.and Hbel.out (Below.and hb hbP2)))).mono ?_; rintro e v2 ⟨Lo2, lo, rfl, hlo2, hbl2⟩; obtain rfl := Dg.one hlo2 rfl)
        | (go_at_call 45; refine (hdiv.out Lo2 _ (HDd.out _ (Below.and hb (Below.and hbP2 hbl2))) hlo2).mono ?_; rintro e u2 ⟨Q2, R2, rr2, rfl, hq2, hbq2⟩))
      have hbU2 : Below Z1.heap.size Z1 u2 := hbP2.and (hbl2.and hbq2)
      have hxU2 := (hxP2.keep hbl2).keep hbq2
      have hzU2 := hz.keep hbU2
      have hbWU2 := hb.and hbU2
      have HAj2 := Lib.hid (fun X (hX : Below u2.heap.size u2 X) => HE.out X (Hbel.out.and (hbWU2.and hX)))
      have Hco2 := Lib.hid (show ∀ X, Below u2.heap.size u2 X → X.cell? ⟨bx2, 0, none⟩ = some (.bool false) ∧ X.cell? ⟨bx2, 1, none⟩ = some (.slice E 1 1) from fun X hX => ⟨(hxU2.keep hX).cell 0, (hxU2.keep hX).cell 1⟩)
      have Hcp2 := Lib.hid (show ∀ X Y, Below u2.heap.size u2 X → Only gz X Y → Y.cell? ⟨bx2, 0, none⟩ = some (.bool false) ∧ Y.cell? ⟨bx2, 1, none⟩ = some (.slice E 1 1) from fun X Y hX hY => ⟨(hY.cell (p := ⟨bx2, 0, none⟩) (by simp; omega)).trans ((hxU2.keep hX).cell 0), (hY.cell (p := ⟨bx2, 1, none⟩) (by simp; omega)).trans ((hxU2.keep hX).cell 1)⟩)
      replace hq := (Has.keep (L := (oneQ gF 0 D ++ (oneQ gF 3 D ++ oneQ gF 6 E))) ⟨⟨x0, lE⟩, ⟨x1, lE⟩, ⟨x2, lE⟩, ⟨x3, lE⟩, ⟨x4, lE⟩, ⟨x5, lE⟩, ⟨x6, lE⟩, ⟨x7, lE⟩, ⟨x8, lE⟩, trivial⟩ hbU2)
      obtain ⟨a0, a1⟩ := Hco2.out _ (Below.refl _ _)
      clear hbP2 hxP2 hbl2 hbq2 y0 y1 y2 x0 x1 x2 x3 x4 x5 x6 x7 x8 lE hxU2 hlo2
      go_region_held3 (fun w' => w'.cell? ⟨bx2, 0, none⟩ = some (.bool false) ∧ w'.cell? ⟨bx2, 1, none⟩ = some (.slice E 1 1))
        (first | exact ⟨a0, a1⟩ | exact Hco2.out _ (Below.drew (Below.refl _ _)) | exact Hco2.out _ hbs2' | exact Hco2.out _ hbt2' | exact Hco2.out _ (Below.more hbt2' _) | exact Hcp2.out _ _ (Below.more hbt2' _) hro2)
        (first
        | (go_at_call 41; refine (hsgn.out Q2 _ (Dg.below hq2 (Below.drew (Below.refl _ _)))).mono ?_; rintro e s2 ⟨rfl, hs2, hbs2⟩; have hbs2' := Below.and (Below.drew (Below.refl u2.heap.size u2)) hbs2)
        | (go_at_call 32; refine (htim.out E Q2 _ (HAj2.out _ hbs2') hs2).mono ?_; rintro e t2 ⟨T2, rfl, ht2, hbt2⟩; have hbt2' := Below.and hbs2' hbt2; obtain ⟨Z2, hrun2, hrb2, hro2⟩ := app_int (X := t2.alloc (.cells #[.bool false, .slice T2 1 1] 25)) (h := t2.heap.size) (Blk.keep (Blk.keep hzU2 hbt2') (below_new _ (.cells #[.bool false, .slice T2 1 1] 25))) rfl k2' (Blk.new t2 25 #[.bool false, .slice T2 1 1]) rfl rfl)
        | (refine step_append_run rfl rfl rfl rfl hrun2 ?_))
      have hbV2 : Below u2.heap.size u2 (t2.alloc (.cells #[.bool false, .slice T2 1 1] 25)) := hbt2'.more _
      have hzV2 := Blk.keep hzU2 hbV2
      have hzN2 : Blk Z2 gz 25 #[.bool false, .slice T0 1 1, .bool false, .slice T1 1 1, .bool false, .slice T2 1 1] := hrb2
      replace hq := Has.only (Has.keep hq hbV2) hro2 (nine_ne (show gF ≠ gz from nF))
      have hbN : Below W.heap.size W Z2 := (hbWU2.and hbV2).trans (hro2.below hzw)
      have hT2 := (ht2.below (below_new _ (.cells #[.bool false, .slice T2 1 1] 25))).only hro2 hzV2 (ints_free _ _ _ (by simp) (by simp) (by simp))
      replace hT0 := ((hT0.below hbU2).below hbV2).only hro2 hzV2 (ints_free _ _ _ (by simp) (by simp) (by simp))
      replace hT1 := ((hT1.below hbU2).below hbV2).only hro2 hzV2 (ints_free _ _ _ (by simp) (by simp) (by simp))
      obtain ⟨⟨x0, lE⟩, ⟨x1, _⟩, ⟨x2, _⟩, ⟨x3, _⟩, ⟨x4, _⟩, ⟨x5, _⟩, ⟨x6, _⟩, ⟨x7, _⟩, ⟨x8, _⟩, _⟩ := hq
      replace hb := hbN
      replace hz := hzN2
      clear hzN2 hbN hzV2 hbV2 hrun2 hrb2 hro2 ht2 hs2 hbs2 hbs2' hbt2 hbt2' hzU2 hbWU2 hbU2 HAj2 Hco2 Hcp2 a0 a1 hq2
      go_wp2_with fail
      rw [rounds_succ]
      go_upto_region 16 with fail
      have hres2 := Hres.out.keep hb
      have hfac := HDd.out _ hb
      have Hsf := Lib.hid (hsgn.out (some ⟨w.heap.size + 1 + 1, 0, none⟩) _ hfac)
      have lgz : w.heap.size ≤ gz := Nat.le_trans Hbel.out.size hzw
      have lrz : w.heap.size + 1 < gz := by have := Hres.out.lt; omega
      clear x0 x1 x2 x3 x4 x5 x6 x7 x8 lE hlow hdiv htim
      go_wp2_with fail
      refine Hsf.out.mono ?_
      rintro e we ⟨rfl, hf, hbe⟩
      have hres3 := hres2.keep hbe
      obtain ⟨r0, r1, s0, s1⟩ := hres3.two
      have hz3 := hz.keep hbe
      have hT0 := hT0.below hbe
      have hT1 := hT1.below hbe
      have hT2 := hT2.below hbe
      have hdf := (Hdg.out.keep hb).keep hbe
      have hbw := Hbel.out.and (hb.and hbe)
      have hfree : ∀ (i : Nat) (z : Int), (#[Value.bool false, .slice none 0 0] : Array Value)[i]? ≠ some (Value.int .u32 z) := intZ_free
      clear Hsf
      go_wp2_with fail
      refine ret_whole (d := w.heap.size + 1 + 1) rfl rfl rfl rfl hres3 ?_
      intro w' ho
      have hz4 := ho.blk (k := gz) (by omega) hz3
      refine ⟨gz, T0, T1, T2, w.heap.size + 1 + 1, rfl, ⟨⟨⟨hz4.cell 0, hz4.lt⟩, ⟨hz4.cell 1, hz4.lt⟩, ⟨hz4.cell 2, hz4.lt⟩, ⟨hz4.cell 3, hz4.lt⟩, ⟨hz4.cell 4, hz4.lt⟩, ⟨hz4.cell 5, hz4.lt⟩, trivial⟩, hT0.only ho hres3 hfree, hT1.only ho hres3 hfree, hT2.only ho hres3 hfree⟩, ?_, hbw.trans (ho.below (by omega)), lgz, by omega⟩
      have hd4 := ho.blk (k := w.heap.size + 1 + 1) (by omega) hdf
      exact ⟨⟨hd4.cell 0, hd4.lt⟩, trivial⟩
end Go.Proofs.YtemcdnppgnobmaaGreatDoor
