/-
  The walks of whether a set contains another one, and == of two sets.
-/
import Derived.Test.YtkdalgdckgmccaaGreatDoorUnion
import Derived.Deep.RegionHeld3
import Derived.Great.BuildSlice
namespace Go.Proofs.YtkdalgdckgmccaaGreatDoor
open Go.RowKit

theorem eq_flags (d : Nat) (xs ys : Array Value) (f g : Nat → Bool) (w : World) : ∀ is : List Nat, (∀ i ∈ is, xs[i]? = some (.bool (f i)) ∧ ys[i]? = some (.bool (g i))) →
    (Op.eqItems (d + 1) 4 (Tryz.prog.cellsOf 4) xs ys is).run Tryz.prog w = .ok (is.all fun i => f i == g i) w
  | [], _ => by simp [Op.eqItems]
  | i :: is, h => by
    have ih := eq_flags d xs ys f g w is fun j hj => h j (by simp [hj])
    obtain ⟨h1, h2⟩ := h i (by simp)
    have p1 := run_part_plain (P := Tryz.prog) w (e := 4) (by kernel_rfl) h1
    have p2 := run_part_plain (P := Tryz.prog) w (e := 4) (by kernel_rfl) h2
    have p3 := run_equalIn_bool' (P := Tryz.prog) w d 4 (f i) (g i) Tryz.underlying4
    simp only [Op.eqItems, cells_bool, Nat.mul_one, Sem.run_bind, p1, p2, p3, Result.andThen_ok, List.all_cons]
    rw [cells_bool] at ih
    cases e : (f i == g i)
    · simp
    · simpa using ih

theorem run_part_agg {t : TypeId} {d : TypeDesc} (hu : Tryz.prog.underlying t = some d) (hd : (match d with | .struct _ | .array _ _ => true | _ => false) = true) (xs : Array Value) (off : Nat) (w : World) :
    (part t xs off).run Tryz.prog w = .ok (.agg (xs.extract off (off + Tryz.prog.cellsOf t))) w := by
  obtain ⟨i, hi⟩ := info_of_underlying hu
  have hagg : (isAgg t).run Tryz.prog w = .ok true w := by
    unfold isAgg
    rw [Sem.run_bind, run_underlying hu w]
    cases d <;> simp_all
  simp only [part, Sem.run_bind, hagg, Result.andThen_ok, if_true, run_sizeOf w hi, Sem.run_pure]

theorem cells_flags : Tryz.prog.cellsOf 47 = 26 := by kernel_rfl
theorem fields_list : (Tryz.prog.fieldsOf 49).toList = [(Tryz.prog.fieldsOf 49)[0]!] := by kernel_rfl
theorem fields_facts : ((Tryz.prog.fieldsOf 49)[0]!.name != "_") = true ∧ (Tryz.prog.fieldsOf 49)[0]!.type = 47 ∧ (Tryz.prog.fieldsOf 49)[0]!.offset = 0 := ⟨by kernel_rfl, by kernel_rfl, by kernel_rfl⟩
theorem struct_nails : Tryz.prog.underlying 49 = some (.struct (Tryz.prog.fieldsOf 49)) := by kernel_rfl
theorem stood_nails : Tryz.prog.stoodInHeld 49 = false := by kernel_rfl

theorem eq_field {d : Nat} {a b : Value} {us vs : Array Value} {f0 : Field} {r : Bool} {w : World} (n0 : f0.name ≠ "_") (h1 : (part f0.type us f0.offset).run Tryz.prog w = .ok a w) (h2 : (part f0.type vs f0.offset).run Tryz.prog w = .ok b w)
    (h3 : (Op.equalIn d f0.type a b).run Tryz.prog w = .ok r w) : (Op.eqFields d us vs [f0]).run Tryz.prog w = .ok r w := by
  simp only [Op.eqFields, n0, Sem.run_bind, ne_eq, not_false_eq_true, if_true]
  rw [h1]
  simp only [Result.andThen_ok]
  rw [h2]
  simp only [Result.andThen_ok]
  rw [h3]
  cases r <;> simp

set_option maxRecDepth 100000 in
theorem eq_nails (S T : Nat → Bool) (w : World) : (binOp .eql 49 (.agg (nailC S)) (.agg (nailC T))).run Tryz.prog w = .ok (.bool (eqN S T)) w := by
  rw [run_eql_struct, run_equalIn_struct w 9999 49 _ _ struct_nails stood_nails, fields_list]
  obtain ⟨n0, t0, o0⟩ := fields_facts
  have p1 := fun S => run_part_agg (t := 47) Tryz.underlying47 rfl (nailC S) 0 w
  rw [cells_flags] at p1
  obtain ⟨it, hit⟩ := info_of_underlying (P := Tryz.prog) Tryz.underlying4
  have hex : ∀ (S : Nat → Bool) (k : Nat), k < 26 → ((nailC S).extract 0 (0 + 26))[k]? = some (.bool (S k)) := fun S k hk => by
    rw [Array.getElem?_extract, if_pos (by rw [nailC_size]; omega), Nat.zero_add]
    exact nailC_at S k hk
  have h3 : (Op.equalIn 9999 47 (.agg ((nailC S).extract 0 (0 + 26))) (.agg ((nailC T).extract 0 (0 + 26)))).run Tryz.prog w = .ok (eqN S T) w := by
    rw [run_equalIn_array (P := Tryz.prog) w 9998 _ _ Tryz.underlying47 hit]
    unfold eqN r26
    exact eq_flags 9997 _ _ S T w _ fun k hk => ⟨hex S k (List.mem_range.1 hk), hex T k (List.mem_range.1 hk)⟩
  rw [eq_field (r := eqN S T) (by simpa using n0) (by rw [t0, o0]; exact p1 S) (by rw [t0, o0]; exact p1 T) (by rw [t0]; exact h3)]
  rfl

theorem info_set : (Tryz.prog.info? 49).map (fun i => (i.zero, i.size, i.bytes)) = some (some (.agg (nailC fun _ => false)), 26, 26) := by kernel_rfl
theorem fill_two (S T : Nat → Bool) : Instr.fill (fun i => some (i * 26, 26)) ((Array.range (2 * 26)).map ((Value.agg (nailC fun _ => false)).cells[· % (Value.agg (nailC fun _ => false)).cells.size]!)) [(0, Value.agg (nailC S)), (1, Value.agg (nailC T))] = some (nailC S ++ nailC T) := by kernel_rfl
theorem fill_one (S : Nat → Bool) : Instr.fill (fun i => some (i * 26, 26)) ((Array.range (1 * 26)).map ((Value.agg (nailC fun _ => false)).cells[· % (Value.agg (nailC fun _ => false)).cells.size]!)) [(0, Value.agg (nailC S))] = some (nailC S) := by kernel_rfl

theorem fill_two' {S T : Nat → Bool} {ie : TypeInfo} (his : ie.size = 26) (a : Act) (x y : Operand) (hx : a.eval x = .agg (nailC S)) (hy : a.eval y = .agg (nailC T)) :
    Instr.fill (fun i => some (i * ie.size, ie.size)) ((Array.range (2 * ie.size)).map ((Value.agg (nailC fun _ => false)).cells[· % (Value.agg (nailC fun _ => false)).cells.size]!)) ((#[(0, x), (1, y)] : Array (Nat × Operand)).map fun (i, x) => (i, a.eval x)).toList = some (nailC S ++ nailC T) := by
  rw [Array.toList_map, his]
  simp only [List.map_cons, List.map_nil, hx, hy]
  exact fill_two S T
theorem fill_one' {S : Nat → Bool} {ie : TypeInfo} (his : ie.size = 26) (a : Act) (x : Operand) (hx : a.eval x = .agg (nailC S)) :
    Instr.fill (fun i => some (i * ie.size, ie.size)) ((Array.range (1 * ie.size)).map ((Value.agg (nailC fun _ => false)).cells[· % (Value.agg (nailC fun _ => false)).cells.size]!)) ((#[(0, x)] : Array (Nat × Operand)).map fun (i, x) => (i, a.eval x)).toList = some (nailC S) := by
  rw [Array.toList_map, his]
  simp only [List.map_cons, List.map_nil, hx]
  exact fill_one S

/-- Whether the first set contains the second. -/
def subN (S T : Nat → Bool) : Bool := eqN (unionN [S, T]) S
theorem subN_iff {S T : Nat → Bool} : subN S T = true ↔ ∀ k, k < 26 → T k = true → S k = true := by
  unfold subN
  rw [eqN_iff]
  unfold unionN
  constructor
  · intro h k hk ht
    have := h k hk
    simp only [List.any_cons, List.any_nil, Bool.or_false] at this
    rw [ht, Bool.or_true] at this
    exact this.symm
  · intro h k hk
    simp only [List.any_cons, List.any_nil, Bool.or_false]
    cases hs : S k
    · cases ht : T k
      · rfl
      · rw [h k hk ht] at hs; cases hs
    · rfl

theorem range_blk {w : World} {g : Nat} {t : TypeId} {S : Nat → Bool} (h : Blk w g t (nailC S)) : w.rangeAt g 0 (nailC S).toList := fun j v hv => by
  rw [Nat.zero_add, h.cell j]
  rwa [Array.getElem?_toList] at hv

theorem row_two {w : World} {g : Nat} {t : TypeId} {S T : Nat → Bool} (h : Blk w g t ((nailC S) ++ (nailC T))) : SetRow w g 0 [S, T] := by
  refine ⟨fun _ => h.lt, fun i hi k hk => ?_⟩
  rw [Nat.zero_add, h.cell]
  have hi2 : i = 0 ∨ i = 1 := by simp at hi; omega
  rcases hi2 with rfl | rfl
  · rw [Array.getElem?_append_left (by rw [nailC_size]; omega), show 0 * 26 + k = k by omega, nailC_at S k hk]; rfl
  · rw [Array.getElem?_append_right (by rw [nailC_size]; omega), nailC_size, show 1 * 26 + k - 26 = k by omega, nailC_at T k hk]; rfl

set_option maxRecDepth 100000 in
set_option maxHeartbeats 1000000 in
theorem contains_any (S T : Nat → Bool) (w : World) :
    Calls Tryz.prog 67 #[.agg (nailC S), .agg (nailC T)] w fun e w' => e = .returned (.bool (subN S T)) ∧ Below w.heap.size w w' := by
  have hb0 := (Blk.new w 49 (nailC S)).more' (.cells (nailC T) 49)
  have hb1 := Blk.new (w.alloc (.cells (nailC S) 49)) 49 (nailC T)
  simp only [World.size_alloc] at hb1
  have hbel : Below w.heap.size w ((w.alloc (.cells (nailC S) 49)).alloc (.cells (nailC T) 49)) := ((Below.refl _ w).alloc (Nat.le_refl _) _).alloc (by simp) _
  obtain ⟨ie, hie, hiz, his, hib⟩ := info_parts info_set
  go_enter Tryz.func67, Tryz.ntmps67
  go_wp2_with fail
  generalize (w.alloc (.cells (nailC S) 49)).alloc (.cells (nailC T) 49) = W0 at *
  generalize hg : w.heap.size = g at *
  refine wp_region_held_drew (S := fun w' => w'.rangeAt g 0 (nailC S).toList ∧ w'.rangeAt (g + 1) 0 (nailC T).toList) (by kernel_rfl) ⟨range_blk hb0, range_blk hb1⟩ (fun hHeld => ?_)
  refine wpAnyH_take (i := 0) rfl (by kernel_rfl) (by kernel_rfl) (by kernel_rfl) (fun _ _ _ h => h) (yieldsIf_load_mid (by rfl) 49 _ rfl g 0 rfl _ _ (fun w h => h.1) Tryz.underlying49 rfl (nailC_list S)) hHeld ?_
  refine wpAnyH_take (i := 1) rfl (by kernel_rfl) (by kernel_rfl) (by kernel_rfl) (fun _ _ _ h => h) (yieldsIf_load_mid (by rfl) 49 _ rfl (g + 1) 0 rfl _ _ (fun w h => h.2) Tryz.underlying49 rfl (nailC_list T)) hHeld ?_
  refine wpAnyH_take (i := 4) rfl (by kernel_rfl) (by kernel_rfl) (by kernel_rfl) (fun _ _ _ h => h) (yieldsIf_load_mid (by rfl) 49 _ rfl g 0 rfl _ _ (fun w h => h.1) Tryz.underlying49 rfl (nailC_list S)) hHeld ?_
  change wpAnyH _ _ _ _ _ _ _ { tmps := #[.agg (nailC S), .agg (nailC T), .pointer (some ⟨g, 0, none⟩), .pointer (some ⟨g + 1, 0, none⟩), .bool false, .agg (nailC S), .agg (nailC T), undef, undef, .agg (nailC S), undef], defers := [] } _
  refine wpAnyH_ready (rs := [2]) (by kernel_rfl) (by simp) (AllReadyH.cons rfl (fun K' hK => ?_) AllReadyH.nil)
  rw [if_pos (by rfl)]
  refine wp_buildSlice 79 49 2 _ rfl _ ie _ Tryz.underlying79 hie hiz (by rw [his]; decide) (by rw [his]; decide) (fill_two' his _ _ _ rfl rfl) ?_
  refine hK.out _ _ ⟨range_blk (hb0.more' _), range_blk (hb1.more' _)⟩ (fun hHeld => ?_)
  have hb2 := Blk.new W0.drew 49 (nailC S ++ nailC T)
  have hu := union_any W0.drew.heap.size 0 2 2 [S, T] _ rfl (row_two hb2) (by omega)
  have hb0' := (show Blk W0.drew g 49 (nailC S) from hb0).more' (.cells (nailC S ++ nailC T) 49)
  have hb1' := (show Blk W0.drew (g + 1) 49 (nailC T) from hb1).more' (.cells (nailC S ++ nailC T) 49)
  have hgle : g + 1 < W0.heap.size := hb1.lt
  have hbel2 : Below g w (W0.drew.alloc (.cells (nailC S ++ nailC T) 49)) := (hbel.drew).alloc (by show g ≤ W0.heap.size; omega) _
  have hsz2 : g + 1 < (W0.drew.alloc (.cells (nailC S ++ nailC T) 49)).heap.size := by
    rw [World.size_alloc]
    show g + 1 < W0.heap.size + 1
    omega
  change wpAnyH _ _ _ _ _ _ _ { tmps := #[.agg (nailC S), .agg (nailC T), .pointer (some ⟨g, 0, none⟩), .pointer (some ⟨g + 1, 0, none⟩), .bool false, .agg (nailC S), .agg (nailC T), .slice (some ⟨W0.drew.heap.size, 0, none⟩) 2 2, undef, .agg (nailC S), undef], defers := [] } _
  generalize W0.drew.alloc (.cells (nailC S ++ nailC T) 49) = W1 at *
  generalize W0.drew.heap.size = gw at *
  refine wpAnyH_ready (rs := [3]) (by kernel_rfl) (by simp) (AllReadyH.cons rfl (fun K' hK => ?_) AllReadyH.nil)
  rw [if_pos (by rfl)]
  change Oper.wp _ { dst := some 8, op := .call { callee := .value (.func 49), args := #[.tmp 7], argTypes := #[79] }, type := 49, pos := "nails.go:78", after := #[{ on := 2, ground := .data }], guard := none } _ _ _ _
  go_simp
  refine hu.mono ?_
  rintro e w2 ⟨rfl, hb2'⟩
  dsimp only
  refine hK.out _ _ ⟨range_blk (hb0'.below hb2' (by omega)), range_blk (hb1'.below hb2' hsz2)⟩ (fun hHeld => ?_)
  have heq := fun W => eq_nails (unionN [S, T]) S W
  refine wpAnyH_take (i := 5) (oi := { dst := some 10, op := .binOp .eql 49 (.tmp 8) (.tmp 9) 49, type := 4, pos := "nails.go:78", after := #[{ on := 3, ground := .data }, { on := 4, ground := .data }], guard := none }) (v := .bool (subN S T)) rfl (by kernel_rfl) (by kernel_rfl) (by kernel_rfl) (fun _ _ _ h => h) (Or.inl ⟨by rfl, fun W _ => by
    go_simp
    rfl⟩) hHeld ?_
  refine wpAnyH_ready (rs := [6]) (by kernel_rfl) (by simp) (AllReadyH.cons rfl (fun K' hK => ?_) AllReadyH.nil)
  rw [if_pos (by rfl)]
  change Oper.wp _ { dst := some 4, op := .assign (.tmp 10), type := 4, pos := "nails.go:78", after := _, guard := none } { tmps := #[.agg (nailC S), .agg (nailC T), .pointer (some ⟨g, 0, none⟩), .pointer (some ⟨g + 1, 0, none⟩), .bool false, .agg (nailC S), .agg (nailC T), .slice (some ⟨gw, 0, none⟩) 2 2, .agg (nailC (unionN [S, T])), .agg (nailC S), .bool (subN S T)], defers := [] } _ _ _
  go_simp
  refine hK.out _ _ hHeld (fun hHeld => ?_)
  refine wpAnyH_done (by kernel_rfl) ?_ _
  go_wp2
  go_ret
  refine ⟨rfl, ?_⟩
  rw [hg]
  exact hbel2.trans (hb2'.mono (by omega))

end Go.Proofs.YtkdalgdckgmccaaGreatDoor
