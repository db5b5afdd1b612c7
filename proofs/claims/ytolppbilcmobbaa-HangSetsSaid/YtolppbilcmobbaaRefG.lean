/-
  The walk of the reference's insert.
-/
import Derived.Test.YtolppbilcmobbaaRefF
import Derived.Laws.AppendOwnNone
import Derived.Sort.Walk0
namespace Go.Proofs.Ytolppbilcmobbaa
open Go.RowKit Go.Shelf

theorem run_append_zero {P : Program} {w : World} (base : Nat) (t ty e : TypeId) (i : TypeInfo) (size : Nat) (ht : P.underlying t = some (.slice e)) (hi : P.info? e = some i)
    (v : Value) (n : Nat) (xs : List Value) (A : Option Addr) (c : Nat) (hown : w.ownsRow base e size v n xs) :
    (Builtin.append_ #[t, t] ty #[v, .slice A 0 c]).run P w = .ok v w := by
  cases A with
  | none =>
    rcases hown.2 with ⟨rfl, rfl⟩ | ⟨g, cap, cur, rfl, _, _, hnc, _⟩
    · simp [Builtin.append_, run_underlying ht, sizeOf, typeInfo, hi, Builtin.lenOf, Builtin.firstCells]
    · simp [Builtin.append_, run_underlying ht, sizeOf, typeInfo, hi, Builtin.lenOf, Builtin.firstCells, hnc, storeCells]
  | some a =>
    rcases hown.2 with ⟨rfl, rfl⟩ | ⟨g, cap, cur, rfl, _, _, hnc, _⟩
    · simp [Builtin.append_, run_underlying ht, sizeOf, typeInfo, hi, Builtin.lenOf, Builtin.firstCells, loadCells, loadCellsFrom]
    · simp [Builtin.append_, run_underlying ht, sizeOf, typeInfo, hi, Builtin.lenOf, Builtin.firstCells, hnc, storeCells, loadCells, loadCellsFrom]
theorem wpList_append_zero {P : Program} {w : World} {ops : Array Oper} {rest : List Oper} {o : Oper} {a : Act} {Q : Exit → Act → World → Prop} (hgd : o.guard = none) (s x : Operand) (t : TypeId)
    (ho : o.op = .call { callee := .builtin .append, args := #[s, x], argTypes := #[t, t] })
    (base : Nat) (e : TypeId) (i : TypeInfo) (size : Nat) (ht : P.underlying t = some (.slice e)) (hi : P.info? e = some i)
    (v : Value) (n : Nat) (xs : List Value) (A : Option Addr) (c : Nat) (hs : a.eval s = v) (hown : w.ownsRow base e size v n xs) (hx : a.eval x = .slice A 0 c)
    (h : wpList P ops Q rest (a.put o.dst v) w) : wpList P ops Q (o :: rest) a w := by
  refine wpList_plain hgd fun K hK => ?_
  have hrun := run_append_zero (P := P) (w := w) base t o.type e i size ht hi v n xs A c hown
  unfold Oper.wp
  simp [execOp, ho, resolve, invoke, builtin, hs, hx, hrun, Result.andThen]
  exact hK _ _ h

/-- Which string comes first. -/
def lessB (a b : ByteArray) : Bool := Op.bytesLess a.toList b.toList
/-- A string put into an ordered list, once. -/
def insL : List ByteArray → ByteArray → List ByteArray
  | [], s => [s]
  | x :: r, s => if lessB x s = true then x :: insL r s else if x = s then x :: r else s :: x :: r
theorem insL_at (s : ByteArray) : ∀ (k : Nat) (ss : List ByteArray), k ≤ ss.length → ((ss.take k).all fun x => lessB x s) = true → insL ss s = ss.take k ++ insL (ss.drop k) s
  | 0, _, _, _ => rfl
  | k + 1, [], h, _ => absurd h (by simp)
  | k + 1, x :: r, h, ha => by
    rw [List.take_succ_cons, List.all_cons, Bool.and_eq_true] at ha
    rw [List.take_succ_cons, List.drop_succ_cons, List.cons_append, ← insL_at s k r (by simpa using h) ha.2]
    show (if lessB x s = true then _ else _) = _
    rw [if_pos ha.1]
theorem insL_end {s : ByteArray} {ss : List ByteArray} (ha : (ss.all fun x => lessB x s) = true) : insL ss s = ss ++ [s] := by
  have := insL_at s ss.length ss (Nat.le_refl _) (by rw [List.take_length]; exact ha)
  rw [this, List.take_length, List.drop_length]; rfl
theorem insL_here {s : ByteArray} {ss : List ByteArray} {k : Nat} (hk : k < ss.length) (ha : ((ss.take k).all fun x => lessB x s) = true) (hno : lessB (ss.getD k ByteArray.empty) s = false) :
    insL ss s = if ss.getD k ByteArray.empty = s then ss else ss.take k ++ s :: ss.drop k := by
  rw [insL_at s k ss (by omega) ha]
  have e : ss.drop k = ss.getD k ByteArray.empty :: ss.drop (k + 1) := by
    rw [List.getD_eq_getElem?_getD, List.getElem?_eq_getElem hk]
    exact List.drop_eq_getElem_cons hk
  have e2 : insL (ss.drop k) s = if ss.getD k ByteArray.empty = s then ss.drop k else s :: ss.drop k := by
    rw [e]
    show (if lessB _ s = true then _ else _) = _
    rw [hno, if_neg (by decide)]
  rw [e2]
  split
  · exact List.take_append_drop k ss
  · rfl
theorem insL_len : ∀ (ss : List ByteArray) (s : ByteArray), (insL ss s).length ≤ ss.length + 1
  | [], _ => Nat.le_refl _
  | x :: r, s => by
    have := insL_len r s
    unfold insL
    split
    · rw [List.length_cons, List.length_cons]; omega
    · split
      · omega
      · rw [List.length_cons]; omega
theorem all_takeB {l : List ByteArray} {P : ByteArray → Bool} {k : Nat} (h : k < l.length) : (l.take (k + 1)).all P = ((l.take k).all P && P (l.getD k ByteArray.empty)) := by
  rw [List.take_succ_eq_append_getElem h, List.all_append, List.getD_eq_getElem?_getD, List.getElem?_eq_getElem h]; simp
theorem str_eq_iff {x y : ByteArray} : (x.toList == y.toList) = decide (x = y) := by
  apply Bool.eq_iff_iff.2
  rw [beq_iff_eq, decide_eq_true_eq]
  constructor
  · intro e
    rw [← strL_letters x, ← strL_letters y]
    unfold lettersOf
    rw [← ByteArray.toList_eq, ← ByteArray.toList_eq, e]
  · rintro rfl; rfl
/-- Cells of strings. -/
theorem StrS.news {w : World} {b off n : Nat} {ss : List ByteArray} (h : StrS w (some ⟨b, off, none⟩) n ss) (k m : Nat) (hk : k + m ≤ n) : ∀ j u, (((ss.drop k).take m).map Value.string)[j]? = some u → w.cell? ((⟨b, off + k, none⟩ : Addr).add j) = some u := by
  intro j u hu
  have hj : j < m := by
    have h1 := (List.getElem?_eq_some_iff.1 hu).1
    rw [List.length_map, List.length_take] at h1
    omega
  obtain ⟨b', off', e, _, hc⟩ := h.2 (by omega)
  injection e with e
  injection e with e1 e2
  subst e1 e2
  have hl := h.1
  rw [add_at, show off + k + j = off + (k + j) by omega, hc (k + j) (by omega)]
  rw [List.getElem?_map, List.getElem?_take, if_pos hj, List.getElem?_drop, List.getElem?_eq_getElem (by omega)] at hu
  rw [List.getD_eq_getElem?_getD, List.getElem?_eq_getElem (by omega)]
  exact hu

end Go.Proofs.Ytolppbilcmobbaa
