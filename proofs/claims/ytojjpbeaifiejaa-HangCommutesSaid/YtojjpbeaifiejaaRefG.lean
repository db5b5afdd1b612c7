/-
  The walk of the reference's insert.
  The walk of the reference's insert, continued.
-/
import Derived.Test.YtojjpbeaifiejaaRefE
import Derived.Laws.AppendOwnNone
import Derived.Sort.Walk0
import Derived.Deep.DeepCutAuto
namespace Go.Proofs.Ytojjpbeaifiejaa
open Go.RowKit Go.Shelf

theorem run_append_zero {P : Program} {w : World} (base : Nat) (t ty e : TypeId) (i : TypeInfo) (size : Nat) (ht : P.underlying t = some (.slice e)) (hi : P.info? e = some i)
    (v : Value) (n : Nat) (xs : List Value) (A : Option Addr) (c : Nat) (hown : w.ownsRow base e size v n xs) :
    (Builtin.append_ #[t, t] ty #[v, .slice A 0 c]).run P w = .ok v w := by
  cases A with
  | none =>
    rcases hown.2 with ⟨rfl, rfl⟩ | ⟨g, cap, cur, rfl, _, _, hnc, _⟩
    · simp [Builtin.append_, run_underlying ht, sizeOf, typeInfo, hi, Builtin.lenOf, Builtin.firstCells]
    · simp [Builtin.append_, run_underlying ht, sizeOf, typeInfo, hi, Builtin.lenOf, Builtin.firstCells, hnc, storeCells]
  | some a =>
    rcases hown.2 with ⟨rfl, rfl⟩ | ⟨g, cap, cur, rfl, _, _, hnc, _⟩
    · simp [Builtin.append_, run_underlying ht, sizeOf, typeInfo, hi, Builtin.lenOf, Builtin.firstCells, loadCells, loadCellsFrom]
    · simp [Builtin.append_, run_underlying ht, sizeOf, typeInfo, hi, Builtin.lenOf, Builtin.firstCells, hnc, storeCells, loadCells, loadCellsFrom]
theorem wpList_append_zero {P : Program} {w : World} {ops : Array Oper} {rest : List Oper} {o : Oper} {a : Act} {Q : Exit → Act → World → Prop} (hgd : o.guard = none) (s x : Operand) (t : TypeId)
    (ho : o.op = .call { callee := .builtin .append, args := #[s, x], argTypes := #[t, t] })
    (base : Nat) (e : TypeId) (i : TypeInfo) (size : Nat) (ht : P.underlying t = some (.slice e)) (hi : P.info? e = some i)
    (v : Value) (n : Nat) (xs : List Value) (A : Option Addr) (c : Nat) (hs : a.eval s = v) (hown : w.ownsRow base e size v n xs) (hx : a.eval x = .slice A 0 c)
    (h : wpList P ops Q rest (a.put o.dst v) w) : wpList P ops Q (o :: rest) a w := by
  refine wpList_plain hgd fun K hK => ?_
  have hrun := run_append_zero (P := P) (w := w) base t o.type e i size ht hi v n xs A c hown
  unfold Oper.wp
  simp [execOp, ho, resolve, invoke, builtin, hs, hx, hrun, Result.andThen]
  exact hK _ _ h

/-- Which string comes first. -/
def lessB (a b : ByteArray) : Bool := Op.bytesLess a.toList b.toList
/-- A string put into an ordered list, once. -/
def insL : List ByteArray → ByteArray → List ByteArray
  | [], s => [s]
  | x :: r, s => if lessB x s = true then x :: insL r s else if x = s then x :: r else s :: x :: r
theorem insL_at (s : ByteArray) : ∀ (k : Nat) (ss : List ByteArray), k ≤ ss.length → ((ss.take k).all fun x => lessB x s) = true → insL ss s = ss.take k ++ insL (ss.drop k) s
  | 0, _, _, _ => rfl
  | k + 1, [], h, _ => absurd h (by simp)
  | k + 1, x :: r, h, ha => by
    rw [List.take_succ_cons, List.all_cons, Bool.and_eq_true] at ha
    rw [List.take_succ_cons, List.drop_succ_cons, List.cons_append, ← insL_at s k r (by simpa using h) ha.2]
    show (if lessB x s = true then _ else _) = _
    rw [if_pos ha.1]
theorem insL_end {s : ByteArray} {ss : List ByteArray} (ha : (ss.all fun x => lessB x s) = true) : insL ss s = ss ++ [s] := by
  have := insL_at s ss.length ss (Nat.le_refl _) (by rw [List.take_length]; exact ha)
  rw [this, List.take_length, List.drop_length]; rfl
theorem insL_here {s : ByteArray} {ss : List ByteArray} {k : Nat} (hk : k < ss.length) (ha : ((ss.take k).all fun x => lessB x s) = true) (hno : lessB (ss.getD k ByteArray.empty) s = false) :
    insL ss s = if ss.getD k ByteArray.empty = s then ss else ss.take k ++ s :: ss.drop k := by
  rw [insL_at s k ss (by omega) ha]
  have e : ss.drop k = ss.getD k ByteArray.empty :: ss.drop (k + 1) := by
    rw [List.getD_eq_getElem?_getD, List.getElem?_eq_getElem hk]
    exact List.drop_eq_getElem_cons hk
  have e2 : insL (ss.drop k) s = if ss.getD k ByteArray.empty = s then ss.drop k else s :: ss.drop k := by
    rw [e]
    show (if lessB _ s = true then _ else _) = _
    rw [hno, if_neg (by decide)]
  rw [e2]
  split
  · exact List.take_append_drop k ss
  · rfl
theorem insL_len : ∀ (ss : List ByteArray) (s : ByteArray), (insL ss s).length ≤ ss.length + 1
  | [], _ => Nat.le_refl _
  | x :: r, s => by
    have := insL_len r s
    unfold insL
    split
    · rw [List.length_cons, List.length_cons]; omega
    · split
      · omega
      · rw [List.length_cons]; omega
theorem all_takeB {l : List ByteArray} {P : ByteArray → Bool} {k : Nat} (h : k < l.length) : (l.take (k + 1)).all P = ((l.take k).all P && P (l.getD k ByteArray.empty)) := by
  rw [List.take_succ_eq_append_getElem h, List.all_append, List.getD_eq_getElem?_getD, List.getElem?_eq_getElem h]; simp
theorem str_eq_iff {x y : ByteArray} : (x.toList == y.toList) = decide (x = y) := by
  apply Bool.eq_iff_iff.2
  rw [beq_iff_eq, decide_eq_true_eq]
  constructor
  · intro e
    rw [← strL_letters x, ← strL_letters y]
    unfold lettersOf
    rw [← ByteArray.toList_eq, ← ByteArray.toList_eq, e]
  · rintro rfl; rfl
/-- Cells of strings. -/
theorem StrS.news {w : World} {b off n : Nat} {ss : List ByteArray} (h : StrS w (some ⟨b, off, none⟩) n ss) (k m : Nat) (hk : k + m ≤ n) : ∀ j u, (((ss.drop k).take m).map Value.string)[j]? = some u → w.cell? ((⟨b, off + k, none⟩ : Addr).add j) = some u := by
  intro j u hu
  have hj : j < m := by
    have h1 := (List.getElem?_eq_some_iff.1 hu).1
    rw [List.length_map, List.length_take] at h1
    omega
  obtain ⟨b', off', e, _, hc⟩ := h.2 (by omega)
  injection e with e
  injection e with e1 e2
  subst e1 e2
  have hl := h.1
  rw [add_at, show off + k + j = off + (k + j) by omega, hc (k + j) (by omega)]
  rw [List.getElem?_map, List.getElem?_take, if_pos hj, List.getElem?_drop, List.getElem?_eq_getElem (by omega)] at hu
  rw [List.getD_eq_getElem?_getD, List.getElem?_eq_getElem (by omega)]
  exact hu

end Go.Proofs.Ytojjpbeaifiejaa

namespace Go.Proofs.Ytojjpbeaifiejaa
open Go.RowKit Go.Shelf

/-- What insert returns. -/
def RetIns (ss : List ByteArray) (w : World) (e : Ending) (w' : World) : Prop := ∃ A c, e = .returned (.slice A ss.length c) ∧ ss.length ≤ c ∧ StrS w' A ss.length ss ∧ Below w.heap.size w w'
theorem own_capd' {w : World} {B n : Nat} {e : TypeId} {v : Value} {xs : List Value} (h : w.ownsRow B e 1 v n xs) : ∃ A c, v = .slice A n c ∧ n ≤ c := by
  obtain ⟨hl, ⟨e1, rfl⟩ | ⟨g', cap', cur, e1, hb, hg, hc, _, hs, ht⟩⟩ := h
  · rw [e1]
    simp at hl
    subst hl
    exact ⟨none, 0, rfl, Nat.le_refl _⟩
  · exact ⟨_, cap', e1, hc⟩

theorem own_rows2 {B : Nat} {w : World} {v : Value} {ss : List ByteArray} (h : w.ownsRow B 9 1 v ss.length (ss.map Value.string)) : ∃ A c, v = .slice A ss.length c ∧ StrS w A ss.length ss := by
  rcases Nat.eq_zero_or_pos ss.length with h0 | h0
  · obtain ⟨A, c, e⟩ := own_slice' h
    exact ⟨A, c, e, rfl, fun g => absurd g (by omega)⟩
  · obtain ⟨g, c, rfl⟩ := own_pos h h0
    refine ⟨_, c, rfl, rfl, fun _ => ⟨g, 0, rfl, (own_lt h).1, fun i hi => ?_⟩⟩
    rw [Nat.zero_add, own_cell h i hi, List.getElem?_map, List.getD_eq_getElem?_getD, List.getElem?_eq_getElem hi]
    rfl

set_option maxRecDepth 100000 in
set_option maxHeartbeats 2000000 in
theorem insert_any (A : Option Addr) (n c : Nat) (ss : List ByteArray) (s : ByteArray) (w : World) (hS : StrS w A n ss) (hn : n ≤ 100000) (hc : n ≤ c) :
    Calls Try.prog 76 #[.slice A n c, .string s] w (RetIns (insL ss s) w) := by
  obtain ⟨i0, hi, hz0, hz1, hz2⟩ := info_parts info_str
  have HS := Lib.hid hS
  have Hl := Lib.hid hS.1
  generalize hg : w.heap.size = g at *
  have Hg := Lib.hid hg
  obtain ⟨L, hL⟩ : ∃ L, insL ss s = L := ⟨_, rfl⟩
  rw [hL]
  have HL := Lib.hid hL
  clear hS hg hL
  go_enter Try.func76, Try.ntmps76
  go_wp2_with fail
  go_loopw [5] (fun kv wr => ∃ k : Nat, k ≤ n ∧ kv = .int .i64 k ∧ ((ss.take k).all fun x => lessB x s) = true ∧ wr = w) (fun kv _ => n - (intOf kv).toNat)
  case atStart => exact ⟨0, Nat.zero_le _, rfl, rfl, rfl⟩
  case round =>
    obtain ⟨k, hk, rfl, hall, rfl⟩ := hrel
    have Hall := Lib.hid hall
    clear hall
    by_cases hlt : k < n
    · obtain ⟨b, off, rfl, hb, hcl⟩ := HS.out.2 (by omega)
      have hci := hcl k hlt
      have Hst := Lib.hid (all_takeB (l := ss) (P := fun x => lessB x s) (k := k) (by have := Hl.out; omega))
      rw [Hall.out, Bool.true_and] at Hst
      have Hhere := Lib.hid (insL_here (s := s) (ss := ss) (k := k) (by have := Hl.out; omega) Hall.out)
      generalize hx : ss.getD k ByteArray.empty = x at *
      have hless : Op.bytesLess x.toList s.toList = lessB x s := rfl
      generalize lessB x s = d at *
      have heq : (x.toList == s.toList) = decide (x = s) := str_eq_iff
      cases d
      · by_cases hxs : x = s
        · have hd : decide (x = s) = true := decide_eq_true hxs
          have Hres : Hid (L = ss) := by show _ = _; rw [← HL.out, Hhere.out rfl, if_pos hxs]
          rw [hd] at heq
          clear hcl hx hd hxs
          go_wp2_with fail
          go_ret
          refine ⟨some ⟨b, off, none⟩, c, by rw [Hres.out, Hl.out]; rfl, by rw [Hres.out, Hl.out]; exact hc, ?_, Below.refl _ _⟩
          rw [Hres.out, Hl.out]
          exact HS.out
        · have hd : decide (x = s) = false := decide_eq_false hxs
          have Hres : Hid (L = ss.take k ++ s :: ss.drop k) := by show _ = _; rw [← HL.out, Hhere.out rfl, if_neg hxs]
          rw [hd] at heq
          clear hcl hx hd hxs
          obtain ⟨P, hP⟩ : ∃ P, P = (ss.take k).map Value.string := ⟨_, rfl⟩
          have hPl : P.length = k := by rw [hP, List.length_map, List.length_take]; have := Hl.out; omega
          have hP1 : ∀ u ∈ P, u.oneCell' = true := by
            intro u hu
            rw [hP] at hu
            obtain ⟨y, _, rfl⟩ := List.mem_map.1 hu
            rfl
          have HP := Lib.hid hP
          clear hP
          go_upto_region 7 with fail
          go_cut [6] (fun v wx => wx.ownsRow g 9 1 v k P ∧ Below g wr wx)
          case first =>
            rcases Nat.eq_zero_or_pos k with h0 | h0
            · subst h0
              go_wp2_with (at_builtin; refine wpList_append_zero rfl _ _ 29 rfl g 9 i0 1 Try.underlying29 hi (.slice none 0 0) 0 [] (some ⟨b, off, none⟩) c rfl ⟨rfl, .inl ⟨rfl, rfl⟩⟩ rfl ?_)
              go_meet
              rw [List.eq_nil_of_length_eq_zero hPl]
              exact ⟨⟨rfl, .inl ⟨rfl, rfl⟩⟩, Below.refl _ _⟩
            · have hnews : ∀ j u, P[j]? = some u → wr.cell? ((⟨b, off, none⟩ : Addr).add j) = some u := by
                rw [HP.out]
                have h := HS.out.news 0 k (by omega)
                rwa [List.drop_zero, Nat.add_zero] at h
              go_wp2_with (at_builtin; refine wpList_append_lies _ rfl _ _ 29 rfl g 9 i0 (.string ⟨#[]⟩) 1 16 Try.underlying29 hi hz0 hz1 hz2 rfl (by decide) (.slice none 0 0) 0 [] rfl ⟨rfl, .inl ⟨rfl, rfl⟩⟩ ⟨b, off, none⟩ k c P rfl ?c0 hnews hP1 h0 ?c4 ?c5 ?c6 wr.heap.size rfl ?_)
              case c4 => unfold maxLen; omega
              case c5 => omega
              case c6 => have := Hg.out; omega
              intro g7 c7 w7 own7 grow7 at7 lt7
              have own7' : w7.ownsRow g 9 1 (.slice (some ⟨g7, 0, none⟩) k c7) k P := by simpa using own7
              have bel7 : Below g wr w7 := (Below.refl g wr).grown grow7 (by have := Hg.out; omega) (fun _ e => by cases e)
              clear own7 grow7 at7 lt7 hnews
              go_wp2_with fail
              go_meet
              exact ⟨own7', bel7⟩
          case rest =>
            obtain ⟨own7, bel7⟩ := hcut
            have hgs7 : g ≤ wc.heap.size := by have := bel7.size; have := Hg.out; omega
            go_upto_region 9 with (at_builtin; refine wpList_append_lies _ rfl _ _ 29 rfl g 9 i0 (.string ⟨#[]⟩) 1 16 Try.underlying29 hi hz0 hz1 hz2 rfl (by decide) _ k P rfl (own7.alloc _) ⟨wc.heap.size, 0, none⟩ 1 1 [.string s] rfl rfl (cell_one_new _ _ _) (one_cell _ rfl) Nat.one_pos (by unfold maxLen; omega) (by omega) (by rw [World.size_alloc]; omega) (wc.heap.size + 1) (size_new'' _ _) ?_)
            intro g8 c8 w8 own8 grow8 at8 lt8
            have bel8 : Below g wr w8 := bel7.trans ((own_below own7 hgs7 grow8).mono (Nat.le_refl _))
            have hgs8 : g ≤ w8.heap.size := by have := bel8.size; have := Hg.out; omega
            have Hbel8 := Lib.hid bel8
            have Hgrow := Lib.hid (own8.lt)
            clear own7 bel7 grow8 at8 lt8
            have hS8 : StrS w8 (some ⟨b, off, none⟩) n ss := HS.out.below (by rw [Hg.out]; exact bel8)
            have hnews0 := hS8.news k (n - k) (by omega)
            obtain ⟨Q, hQ⟩ : ∃ Q, Q = ((ss.drop k).take (n - k)).map Value.string := ⟨_, rfl⟩
            have hQl : Q.length = n - k := by rw [hQ, List.length_map, List.length_take, List.length_drop]; have := Hl.out; omega
            have hQ1 : ∀ u ∈ Q, u.oneCell' = true := by
              intro u hu
              rw [hQ] at hu
              obtain ⟨y, _, rfl⟩ := List.mem_map.1 hu
              rfl
            rw [← hQ] at hnews0
            have hlall : (ss.drop k).take (n - k) = ss.drop k := List.take_of_length_le (by rw [List.length_drop]; have := Hl.out; omega)
            have HQ : Hid (Q = (ss.drop k).map Value.string) := by show _ = _; rw [hQ, hlall]
            clear bel8 hS8 hQ hlall
            go_wp2_with (at_builtin; refine wpList_append_lies _ rfl _ _ 29 rfl g 9 i0 (.string ⟨#[]⟩) 1 16 Try.underlying29 hi hz0 hz1 hz2 rfl (by decide) _ (k + 1) _ rfl own8 ⟨b, off + k, none⟩ (n - k) (c - k) Q rfl ?d0 hnews0 hQ1 ?d3 ?d4 ?d5 hgs8 w8.heap.size rfl ?_)
            case d0 => rw [hQl, Nat.mul_one]
            case d3 => omega
            case d4 => unfold maxLen; omega
            case d5 => omega
            intro g9 c9 w9 own9 grow9 at9 lt9
            have bel9 : Below g wr w9 := Hbel8.out.grown grow9 hgs8 (fun r e => (Hgrow.out r e).1)
            go_wp2_with fail
            go_ret
            have hLl : L.length = k + 1 + (n - k) := by
              rw [Hres.out, List.length_append, List.length_cons, List.length_take, List.length_drop, Hl.out]; omega
            have hLm : P ++ [Value.string s] ++ Q = L.map Value.string := by rw [HP.out, HQ.out, Hres.out, List.map_append, List.map_cons, List.append_assoc]; rfl
            have own9' : w9.ownsRow g 9 1 (.slice (some ⟨g9, 0, none⟩) (k + 1 + (n - k) : Nat) c9) (k + 1 + (n - k)) (P ++ [Value.string s] ++ Q) := by simpa using own9
            rw [hLm, ← hLl] at own9'
            obtain ⟨A9, c9', e9, hS9⟩ := own_rows2 own9'
            have hcap := own_capd own9'
            injection e9 with e91 e92 e93
            subst e91
            exact ⟨_, c9, by rw [hLl]; rfl, hcap, hS9, by rw [Hg.out]; exact bel9⟩
      · clear hcl hx
        go_wp2_with fail
        go_roundw
        case rel => exact ⟨k + 1, by omega, by go_num, by rw [Hst.out], (by trivial)⟩
        case measure => simp [intOf]; omega
    · obtain rfl : k = n := by omega
      have hall := Hall.out
      rw [List.take_of_length_le (by have := Hl.out; omega)] at hall
      have Hres : Hid (L = ss ++ [s]) := by show _ = _; rw [← HL.out, insL_end hall]
      clear hall
      obtain ⟨P, hP⟩ : ∃ P, P = (ss.take k).map Value.string := ⟨_, rfl⟩
      have hPl : P.length = k := by rw [hP, List.length_map, List.length_take]; have := Hl.out; omega
      have hP1 : ∀ u ∈ P, u.oneCell' = true := by
        intro u hu
        rw [hP] at hu
        obtain ⟨y, _, rfl⟩ := List.mem_map.1 hu
        rfl
      have HP := Lib.hid hP
      clear hP
      go_upto_region 7 with fail
      go_cut [6] (fun v wx => wx.ownsRow g 9 1 v k P ∧ Below g wr wx)
      case first =>
        rcases Nat.eq_zero_or_pos k with h0 | h0
        · subst h0
          go_wp2_with (at_builtin; refine wpList_append_zero rfl _ _ 29 rfl g 9 i0 1 Try.underlying29 hi (.slice none 0 0) 0 [] A c rfl ⟨rfl, .inl ⟨rfl, rfl⟩⟩ rfl ?_)
          go_meet
          rw [List.eq_nil_of_length_eq_zero hPl]
          exact ⟨⟨rfl, .inl ⟨rfl, rfl⟩⟩, Below.refl _ _⟩
        · obtain ⟨b, off, rfl, hb, hcl⟩ := HS.out.2 h0
          clear hcl
          have hnews : ∀ j u, P[j]? = some u → wr.cell? ((⟨b, off, none⟩ : Addr).add j) = some u := by
            rw [HP.out]
            have h := HS.out.news 0 k (by omega)
            rwa [List.drop_zero, Nat.add_zero] at h
          go_wp2_with (at_builtin; refine wpList_append_lies _ rfl _ _ 29 rfl g 9 i0 (.string ⟨#[]⟩) 1 16 Try.underlying29 hi hz0 hz1 hz2 rfl (by decide) (.slice none 0 0) 0 [] rfl ⟨rfl, .inl ⟨rfl, rfl⟩⟩ ⟨b, off, none⟩ k c P rfl ?yc0 hnews hP1 h0 ?yc4 ?yc5 ?yc6 wr.heap.size rfl ?_)
          case yc0 => rw [hPl, Nat.mul_one]
          case yc4 => unfold maxLen; omega
          case yc5 => omega
          case yc6 => have := Hg.out; omega
          intro g7 c7 w7 own7 grow7 at7 lt7
          have own7' : w7.ownsRow g 9 1 (.slice (some ⟨g7, 0, none⟩) k c7) k P := by simpa using own7
          have bel7 : Below g wr w7 := (Below.refl g wr).grown grow7 (by have := Hg.out; omega) (fun _ e => by cases e)
          clear own7 grow7 at7 lt7 hnews
          go_wp2_with fail
          go_meet
          exact ⟨own7', bel7⟩
      case rest =>
        obtain ⟨own7, bel7⟩ := hcut
        have hgs7 : g ≤ wc.heap.size := by have := bel7.size; have := Hg.out; omega
        go_upto_region 9 with (at_builtin; refine wpList_append_lies _ rfl _ _ 29 rfl g 9 i0 (.string ⟨#[]⟩) 1 16 Try.underlying29 hi hz0 hz1 hz2 rfl (by decide) _ k P rfl (own7.alloc _) ⟨wc.heap.size, 0, none⟩ 1 1 [.string s] rfl rfl (cell_one_new _ _ _) (one_cell _ rfl) Nat.one_pos (by unfold maxLen; omega) (by omega) (by rw [World.size_alloc]; omega) (wc.heap.size + 1) (size_new'' _ _) ?_)
        intro g8 c8 w8 own8 grow8 at8 lt8
        have bel8 : Below g wr w8 := bel7.trans ((own_below own7 hgs7 grow8).mono (Nat.le_refl _))
        have hgs8 : g ≤ w8.heap.size := by have := bel8.size; have := Hg.out; omega
        have Hbel8 := Lib.hid bel8
        have Hgrow := Lib.hid (own8.lt)
        clear own7 bel7 grow8 at8 lt8
        go_wp2_with (at_builtin; refine wpList_append_zero rfl _ _ 29 rfl g 9 i0 1 Try.underlying29 hi _ (k + 1) _ _ _ rfl own8 rfl ?_)
        all_goals
          go_ret
          have hLl : L.length = k + 1 := by
            rw [Hres.out, List.length_append, Hl.out]; rfl
          have hLm : P ++ [Value.string s] = L.map Value.string := by rw [HP.out, Hres.out, List.map_append, List.take_of_length_le (by have := Hl.out; omega)]; rfl
          have bel8 := Hbel8.out
          rw [hLm, ← hLl] at own8
          obtain ⟨A9, c9', e9, hS9⟩ := own_rows2 own8
          have hcap := own_capd own8
          injection e9 with e91 e92 e93
          subst e91
          exact ⟨_, c8, by rw [hLl]; rfl, hcap, hS9, by rw [Hg.out]; exact bel8⟩

end Go.Proofs.Ytojjpbeaifiejaa
