/-
  The search of an occurrence: the closure that calls itself.
  The walks of occurrence and Find.
-/
import Derived.Test.YtcklgdcjedikoaaBaxter
import Derived.Test.YtcklgdcjedikoaaKnuM
import Derived.Test.YtcklgdcjedikoaaSortW
import Derived.Deep.AppendLies
import Derived.WalkMore
import Derived.Test.YtcklgdcjedikoaaChk
namespace Go.Proofs.Ytcklgdcjedikoaa
open Go.RowKit Go.Shelf

attribute [local go_sem] Oper.semAt_some

/-- append inside a fence, and where the new slice lies. -/
theorem wpListIn_append_lies {F : Fence} {n' : Nat} {P : Program} {w : World} {ops : Array Oper} {rest : List Oper} {o : Oper} {a : Act} {Q : Exit → Act → World → Prop} (hgd : o.guard = none) (s x : Operand) (t : TypeId)
    (ho : o.op = .call { callee := .builtin .append, args := #[s, x], argTypes := #[t, t] })
    (base : Nat) (e : TypeId) (i : TypeInfo) (z : Value) (size bytes : Nat) (ht : P.underlying t = some (.slice e)) (hi : P.info? e = some i) (hz : i.zero = some z)
    (hsize : i.size = size) (hby : i.bytes = bytes) (hzs : z.cells.size = size) (hsz : 0 < size)
    (v : Value) (n : Nat) (xs : List Value) (hs : a.eval s = v) (hown : w.ownsRow base e size v n xs)
    (ad : Addr) (m c : Nat) (news : List Value) (hx : a.eval x = .slice (some ad) m c) (hl : news.length = m * size) (hnews : ∀ j u, news[j]? = some u → w.cell? (ad.add j) = some u) (h1 : ∀ u ∈ news, u.oneCell' = true)
    (hm : 0 < m) (h63 : n + m ≤ maxLen) (hbytes : (n + m) * bytes ≤ 140737488355328) (hbase : base ≤ w.heap.size) (H : Nat) (hH : w.heap.size = H)
    (h : ∀ g cap w', w'.ownsRow base e size (.slice (some ⟨g, 0, none⟩) (n + m) cap) (n + m) (xs ++ news) → w.grownBy w' v.ownBlock → (v.ownBlock = some g ∨ g = H) → g < w'.heap.size → wpListIn F n' P ops Q rest (a.put o.dst (.slice (some ⟨g, 0, none⟩) (n + m) cap)) w') :
    wpListIn F n' P ops Q (o :: rest) a w := by
  refine wpListIn_plain hgd fun K hK' => ?_
  obtain ⟨g, cap, w', hrun, r1, r2, r3, r4⟩ := run_append_lies (P := P) w t o.type base e i z size bytes ht hi hz hsize hby hzs hsz v n xs hown ad m c news hl hnews h1 hm h63 hbytes hbase H hH
  unfold Oper.wpIn
  refine ⟨?_, ?_⟩
  · simp [Oper.about, ho, resolve, Target.leads, Sem.run_pure]
  · rw [Oper.semAt_plain F _ _ (by rw [ho]; intro c hc'; cases hc')]
    simp [execOp, ho, resolve, invoke, builtin, hs, hx, hrun, Result.andThen]
    exact hK' _ _ (h g cap w' r1 r2 r3 r4)

/-- What the search reads: the boxes of both permutations and of itself, and the rows. -/
structure ExtAt (Bat Bq Bp Be bq oq cq bp op cp : Nat) (p q : List Nat) (po qo : Obj) (W : World) : Prop where
  xq : W.heap[Bq]? = some (.cells #[.slice (some ⟨bq, oq, none⟩) q.length cq] 22 (0, 0))
  xp : W.heap[Bp]? = some (.cells #[.slice (some ⟨bp, op, none⟩) p.length cp] 22 (0, 0))
  xe : W.heap[Be]? = some (.cells #[.func (.func 98) #[] #[.pointer (some ⟨Bat, 0, none⟩), .pointer (some ⟨Bq, 0, none⟩), .pointer (some ⟨Bp, 0, none⟩), .pointer (some ⟨Be, 0, none⟩)]] 77 (0, 0))
  rp : W.heap[bp]? = some po
  rq : W.heap[bq]? = some qo

theorem ExtAt.own {β : Type} (B Bat Bq Bp Be bq oq cq bp op cp : Nat) (p q : List Nat) (po qo : Obj) (hp : bp < B) (hq : bq < B) : OwnFrom B (fun (_ : β) X => ExtAt Bat Bq Bp Be bq oq cq bp op cp p q po qo X) := fun s A X row hs hg hr =>
  ⟨Own.from (own_block_cells (β := β) _ _ _) B s A X row hs.xq hg hr, Own.from (own_block_cells (β := β) _ _ _) B s A X row hs.xp hg hr, Own.from (own_block_cells (β := β) _ _ _) B s A X row hs.xe hg hr,
    ownFrom_block (β := β) B _ _ hp s A X row hs.rp hg hr, ownFrom_block (β := β) B _ _ hq s A X row hs.rq hg hr⟩
theorem ExtAt.keep {Bat Bq Bp Be bq oq cq bp op cp : Nat} {p q : List Nat} {po qo : Obj} {W W' : World} (h : ExtAt Bat Bq Bp Be bq oq cq bp op cp p q po qo W)
    (hk : ∀ k, k = Bq ∨ k = Bp ∨ k = Be ∨ k = bp ∨ k = bq → W'.heap[k]? = W.heap[k]?) : ExtAt Bat Bq Bp Be bq oq cq bp op cp p q po qo W' :=
  ⟨(hk _ (by simp)).trans h.xq, (hk _ (by simp)).trans h.xp, (hk _ (by simp)).trans h.xe, (hk _ (by simp)).trans h.rp, (hk _ (by simp)).trans h.rq⟩

/-- The positions so far, in a row of the search's own. -/
def AtRow (B Bat : Nat) (at' : List Nat) (v : Value) (W : World) : Prop := W.heap[Bat]? = some (.cells #[v] 22 (0, 0)) ∧ W.ownsRow B 3 1 v at'.length (nums .i64 at')

theorem GRow.keeps {g C : Nat} {row : Option Nat} {a w : World} (h : GRow g row a w) (hg : ∃ cs t z, a.heap[g]? = some (.cells cs t z)) (hr : ∀ k, row = some k → ∃ cs t z, a.heap[k]? = some (.cells cs t z)) : KeepsFrom C a w :=
  ⟨h.size, fun k o _ ho hc => (h.block k (Array.getElem?_eq_some_iff.1 ho).1 (fun e => by
    obtain ⟨cs, t, z, e2⟩ := hg
    rw [e, e2] at ho
    injection ho with ho
    rw [← ho] at hc
    cases hc) (fun e => by
    obtain ⟨cs, t, z, e2⟩ := hr k e.symm
    rw [e2] at ho
    injection ho with ho
    rw [← ho] at hc
    cases hc)).trans ho⟩
theorem own_is_cells {w : World} {B size n : Nat} {e : TypeId} {v : Value} {xs : List Value} (h : w.ownsRow B e size v n xs) : ∀ k, v.ownBlock = some k → (∃ cs z, w.heap[k]? = some (.cells cs e z)) ∧ B ≤ k := by
  intro k hk
  obtain ⟨_, ⟨rfl, _⟩ | ⟨g, cap, cur, rfl, hb, hg, _⟩⟩ := h
  · cases hk
  · obtain rfl : g = k := by simpa [Value.ownBlock] using hk
    exact ⟨⟨cur, _, hg⟩, hb⟩
theorem GRow.trans' {g : Nat} {r r' : Option Nat} {a b c : World} (h : GRow g r a b) (k : GRow g r' b c) (hr : ∀ j, r' = some j → r = some j ∨ a.heap.size ≤ j) : GRow g r a c :=
  ⟨k.os.trans h.os, k.tape.trans h.tape, k.output.trans h.output, Nat.le_trans h.size k.size, fun i hi h1 h2 => (k.block i (Nat.lt_of_lt_of_le hi h.size) h1 (fun e => by
    rcases hr i e.symm with e2 | e2
    · exact h2 e2.symm
    · omega)).trans (h.block i hi h1 h2)⟩
theorem GRow.turn {g : Nat} {r s : Option Nat} {a w w' : World} (h : GRow g r a w) (hg : w.grownBy w' s) (hs : ∀ j, s = some j → a.heap.size ≤ j) : GRow g r a w' :=
  ⟨hg.os.trans h.os, hg.tape.trans h.tape, hg.output.trans h.output, Nat.le_trans h.size hg.size, fun k hk h1 h2 => (hg.block k (Nat.lt_of_lt_of_le hk h.size) (fun e => by have := hs k e.symm; omega)).trans (h.block k hk h1 h2)⟩

/-- What the search returns, and what it leaves. -/
def RetExt (B Bat : Nat) (v : Value) (o : Option (List Nat)) (at' : List Nat) (w : World) (e : Ending) (w' : World) : Prop :=
  e = .returned (.bool o.isSome) ∧ ∃ v', AtRow B Bat (o.getD at') v' w' ∧ (∀ g, v'.ownBlock = some g → v.ownBlock = some g ∨ w.heap.size ≤ g) ∧ GRow Bat v.ownBlock w w'

/-- What holds between two rounds of the search: nothing was found, and the positions are as they were. -/
def ExtI (B Bat Bq Bp Be bq oq cq bp op cp : Nat) (p q : List Nat) (po qo : Obj) (f : Nat) (at' : List Nat) (w : World) (v : Value) (ys : List (Fin p.length)) (X : World) : Prop :=
  (∀ y ∈ ys, tryAt p q (f + 1) at' y.1 = none) ∧ (ExtAt Bat Bq Bp Be bq oq cq bp op cp p q po qo X ∧ (X.heap[w.heap.size]? = some (.cells #[.bool false] 4 (0, 0)) ∧ X.heap[w.heap.size + 1]? = some (.cells #[.int .i64 at'.length] 3 (0, 0)) ∧ X.heap[w.heap.size + 1 + 1]? = some (.cells #[.slice (some ⟨bp, op, none⟩) p.length cp] 22 (0, 0)))) ∧
        (∃ v', Boxed X Bat 22 v' ∧ X.ownsRow B 3 1 v' at'.length (nums .i64 at') ∧ (∀ g, v'.ownBlock = some g → v.ownBlock = some g ∨ w.heap.size + 4 ≤ g)) ∧ GRow Bat v.ownBlock w X
/-- What holds when it was left. -/
def ExtX (B Bat : Nat) (p q : List Nat) (f : Nat) (at' : List Nat) (w : World) (v : Value) (cd : Code) (ys : List (Fin p.length)) (X : World) : Prop :=
  (∃ ini y r, cd = .ret ∧ ys = ini ++ [y] ∧ (∀ y' ∈ ini, tryAt p q (f + 1) at' y'.1 = none) ∧ tryAt p q (f + 1) at' y.1 = some r ∧ (∃ v', Boxed X Bat 22 v' ∧ X.ownsRow B 3 1 v' r.length (nums .i64 r) ∧ (∀ g, v'.ownBlock = some g → v.ownBlock = some g ∨ w.heap.size + 4 ≤ g))) ∧
        X.heap[w.heap.size]? = some (.cells #[.bool true] 4 (0, 0)) ∧ GRow Bat v.ownBlock w X

theorem ExtI.own {B Bat Bq Bp Be bq oq cq bp op cp : Nat} {p q : List Nat} {po qo : Obj} {f : Nat} {at' : List Nat} {w : World} {v : Value} {C : Nat} (h1 : bp < C) (h2 : bq < C) (h3 : w.heap.size ≤ C) : OwnFrom C (ExtI B Bat Bq Bp Be bq oq cq bp op cp p q po qo f at' w v) := by
  rintro ys A X row ⟨a1, ⟨a2, a3, a4, a5⟩, a6, a7⟩ hg hr
  exact ⟨a1, ⟨ExtAt.own (β := Unit) _ _ _ _ _ _ _ _ _ _ _ _ _ _ _ h1 h2 () A X row a2 hg hr, Own.from (own_block_cells (β := Unit) _ _ _) C () A X row a3 hg hr, Own.from (own_block_cells (β := Unit) _ _ _) C () A X row a4 hg hr, Own.from (own_block_cells (β := Unit) _ _ _) C () A X row a5 hg hr⟩,
    Own.from (holdsRow_own (β := Unit) B Bat 22 3 1 (fun _ => at'.length) (fun _ => nums .i64 at') (fun _ v' => ∀ g, v'.ownBlock = some g → v.ownBlock = some g ∨ w.heap.size + 4 ≤ g)) C () A X row a6 hg hr, a7.turn hg (fun j e => by have := (hr j e).1; omega)⟩
theorem ExtX.own {B Bat : Nat} {p q : List Nat} {f : Nat} {at' : List Nat} {w : World} {v : Value} {C : Nat} (h3 : w.heap.size ≤ C) (cd : Code) : OwnFrom C (ExtX B Bat p q f at' w v cd) := by
  rintro ys A X row ⟨⟨ini, y, r, e1, e2, e3, e4, hv⟩, hb, hGx⟩ hg hr
  exact ⟨⟨ini, y, r, e1, e2, e3, e4, Own.from (holdsRow_own (β := Unit) B Bat 22 3 1 (fun _ => r.length) (fun _ => nums .i64 r) (fun _ v' => ∀ g, v'.ownBlock = some g → v.ownBlock = some g ∨ w.heap.size + 4 ≤ g)) C () A X row hv hg hr⟩,
    Own.from (own_block_cells (β := Unit) _ _ _) C () A X row hb hg hr, hGx.turn hg (fun j e => by have := (hr j e).1; omega)⟩
theorem own_row_drewN {w : World} {B size n : Nat} {e : TypeId} {v : Value} {xs : List Value} (h : w.ownsRow B e size v n xs) (k : Nat) : (w.drewN k).ownsRow B e size v n xs := own_stay h fun _ _ => rfl
theorem ExtI.drewN {B Bat Bq Bp Be bq oq cq bp op cp : Nat} {p q : List Nat} {po qo : Obj} {f : Nat} {at' : List Nat} {w : World} {v : Value} {ys : List (Fin p.length)} {X : World} (h : ExtI B Bat Bq Bp Be bq oq cq bp op cp p q po qo f at' w v ys X) (n : Nat) : ExtI B Bat Bq Bp Be bq oq cq bp op cp p q po qo f at' w v ys (X.drewN n) := by
  obtain ⟨a1, ⟨a2, a3⟩, ⟨v', b1, b2, b3⟩, a7⟩ := h
  exact ⟨a1, ⟨a2.keep fun _ _ => rfl, a3⟩, ⟨v', b1, own_row_drewN b2 n, b3⟩, a7.drewN n⟩
theorem ExtI.more {B Bat Bq Bp Be bq oq cq bp op cp : Nat} {p q : List Nat} {po qo : Obj} {f : Nat} {at' : List Nat} {w : World} {v : Value} {ys : List (Fin p.length)} {X : World} (h : ExtI B Bat Bq Bp Be bq oq cq bp op cp p q po qo f at' w v ys X) {x : Fin p.length} (hx : tryAt p q (f + 1) at' x.1 = none) : ExtI B Bat Bq Bp Be bq oq cq bp op cp p q po qo f at' w v (ys ++ [x]) X := by
  refine ⟨fun y hy => ?_, h.2⟩
  rcases List.mem_append.1 hy with h1 | h1
  · exact h.1 y h1
  · rw [List.mem_singleton.1 h1]; exact hx

set_option maxRecDepth 100000 in
set_option maxHeartbeats 8000000 in
theorem ext_in (B Bat Bq Bp Be bq oq cq bp op cp : Nat) (p q : List Nat) (po qo : Obj) (hRp : RowAt po bp op p) (hRq : RowAt qo bq oq q) (hql : q.length ≤ 6) (hpl : p.length ≤ 60)
    (hBs : Bat < B ∧ Bq < B ∧ Bp < B ∧ Be < B ∧ bq < B ∧ bp < B) (hne : Bat ≠ Bq ∧ Bat ≠ Bp ∧ Bat ≠ Be ∧ Bat ≠ bq ∧ Bat ≠ bp) : ∀ (f : Nat) (at' : List Nat) (s : Nat) (v : Value) (w : World), at'.length + f = q.length → (∀ k, k < at'.length → at'.getD k 0 < p.length) → s ≤ 61 → B ≤ w.heap.size →
    ExtAt Bat Bq Bp Be bq oq cq bp op cp p q po qo w → AtRow B Bat at' v w →
    CallsIn Fence.wide 100 Try.prog 98 #[.int .i64 s, .pointer (some ⟨Bat, 0, none⟩), .pointer (some ⟨Bq, 0, none⟩), .pointer (some ⟨Bp, 0, none⟩), .pointer (some ⟨Be, 0, none⟩)] w
      (RetExt B Bat v (ext p q (f + 1) at' s) at' w) := by
  intro f
  induction f with
  | zero =>
    intro at' s v w hfl hlt hs hBw hE hA
    obtain ⟨A, c, rfl⟩ := own_slice' hA.2
    rw [ext_full (show at'.length = q.length by omega)]
    have bA : Boxed w Bat 22 (.slice A at'.length c) := hA.1
    have bQ : Boxed w Bq 22 (.slice (some ⟨bq, oq, none⟩) q.length cq) := hE.xq
    have cA := ((bA.alloc (.cells #[.bool false] 4)).cell)
    have cQ := ((bQ.alloc (.cells #[.bool false] 4)).alloc (.cells #[.int .i64 at'.length] 3)).cell
    have bR := (Boxed.new w 4 (.bool false)).alloc (.cells #[.int .i64 at'.length] 3)
    have fR := bR.frozen
    have HA := Lib.hid hA
    have hd : ((at'.length : Int) == (q.length : Int)) = true := by rw [beq_iff_eq]; omega
    clear bA bQ hE hA hfl
    refine callsIn_of_wp_marks Try.func98 rfl trivial ?_ rfl
    simp only [Try.ntmps98, List.size_toArray, List.length_cons, List.length_nil, Nat.reduceAdd, Nat.reduceSub, Array.replicate_succ, Array.replicate_zero, List.push_toArray, List.append_toArray, List.nil_append, List.cons_append]
    gi_wp2
    refine wpIn_wide.2 (wp_scope_straight ((wpIn_wide (n := 100)).1 ?_))
    gi_wp2
    have c1 := ((Boxed.new w 4 (.bool true)).alloc (.cells #[.int .i64 at'.length] 3)).cell
    have hg : GRow Bat (Value.slice A at'.length c).ownBlock w ((w.alloc (.cells #[.bool true] 4)).alloc (.cells #[.int .i64 at'.length] 3)) := ((GRow.refl _ _ w).alloc _).alloc _
    rw [Exit.noGoto_ret]
    refine ⟨.bool true, by simp [results, Try.f98, go_sem, c1], rfl, _, ⟨?_, ?_⟩, fun g hg => .inl hg, hg⟩
    · exact (Below.heap_alloc _ _ _ (by simp; have := Boxed.lt HA.out.1; omega)).trans ((Below.heap_alloc _ _ _ (Boxed.lt HA.out.1)).trans HA.out.1)
    · exact (HA.out.2.alloc _).alloc _
  | succ f ih =>
    intro at' s v w hfl hlt hs hBw hE hA
    obtain ⟨A, c, rfl⟩ := own_slice' hA.2
    have hal : at'.length ≠ q.length := by omega
    have bA : Boxed w Bat 22 (.slice A at'.length c) := hA.1
    have bQ : Boxed w Bq 22 (.slice (some ⟨bq, oq, none⟩) q.length cq) := hE.xq
    have bP : Boxed w Bp 22 (.slice (some ⟨bp, op, none⟩) p.length cp) := hE.xp
    have cA := ((bA.alloc (.cells #[.bool false] 4)).cell)
    have cQ := ((bQ.alloc (.cells #[.bool false] 4)).alloc (.cells #[.int .i64 at'.length] 3)).cell
    have cP := ((bP.alloc (.cells #[.bool false] 4)).alloc (.cells #[.int .i64 at'.length] 3)).cell
    have hd : ((at'.length : Int) == (q.length : Int)) = false := by rw [beq_eq_false_iff_ne]; omega
    refine callsIn_of_wp_marks Try.func98 rfl trivial ?_ rfl
    simp only [Try.ntmps98, List.size_toArray, List.length_cons, List.length_nil, Nat.reduceAdd, Nat.reduceSub, Array.replicate_succ, Array.replicate_zero, List.push_toArray, List.append_toArray, List.nil_append, List.cons_append]
    gi_wp2
    refine wpIn_wide.2 (wp_scope_straight ((wpIn_wide (n := 100)).1 ?_))
    gi_wp2
    refine wpIn_label ?_
    gi_wp2_with (refine ⟨trivial, ?_⟩; gi_at_call 76; refine (values_in Fence.wide 99 trivial rfl _ _ _ _ _).mono ?_; rintro e w' ⟨rfl, rfl⟩)
    have eR := (((Boxed.new w 4 (.bool false)).alloc (.cells #[.int .i64 at'.length] 3)).alloc (.cells #[.slice (some ⟨bp, op, none⟩) p.length cp] 22)).alloc (.cells #[.int .i64 s] 3)
    have eK := ((Boxed.new (w.alloc (.cells #[.bool false] 4)) 3 (.int .i64 at'.length)).alloc (.cells #[.slice (some ⟨bp, op, none⟩) p.length cp] 22)).alloc (.cells #[.int .i64 s] 3)
    have eS := (Boxed.new ((w.alloc (.cells #[.bool false] 4)).alloc (.cells #[.int .i64 at'.length] 3)) 22 (.slice (some ⟨bp, op, none⟩) p.length cp)).alloc (.cells #[.int .i64 s] 3)
    have eF := Boxed.new (((w.alloc (.cells #[.bool false] 4)).alloc (.cells #[.int .i64 at'.length] 3)).alloc (.cells #[.slice (some ⟨bp, op, none⟩) p.length cp] 22)) 3 (.int .i64 s)
    have hG := ((((GRow.refl Bat (Value.slice A at'.length c).ownBlock w).alloc (.cells #[.bool false] 4)).alloc (.cells #[.int .i64 at'.length] 3)).alloc (.cells #[.slice (some ⟨bp, op, none⟩) p.length cp] 22)).alloc (.cells #[.int .i64 s] 3)
    have hsz : ((((w.alloc (.cells #[.bool false] 4)).alloc (.cells #[.int .i64 at'.length] 3)).alloc (.cells #[.slice (some ⟨bp, op, none⟩) p.length cp] 22)).alloc (.cells #[.int .i64 s] 3)).heap.size = w.heap.size + 4 := by simp
    have hkeep : ∀ k, k < w.heap.size → ((((w.alloc (.cells #[.bool false] 4)).alloc (.cells #[.int .i64 at'.length] 3)).alloc (.cells #[.slice (some ⟨bp, op, none⟩) p.length cp] 22)).alloc (.cells #[.int .i64 s] 3)).heap[k]? = w.heap[k]? := fun k hk =>
      (Below.heap_alloc _ _ _ (by simp; omega)).trans ((Below.heap_alloc _ _ _ (by simp; omega)).trans ((Below.heap_alloc _ _ _ (by simp; omega)).trans (Below.heap_alloc _ _ _ hk)))
    have hA4 := (((hA.2.alloc (.cells #[.bool false] 4)).alloc (.cells #[.int .i64 at'.length] 3)).alloc (.cells #[.slice (some ⟨bp, op, none⟩) p.length cp] 22)).alloc (.cells #[.int .i64 s] 3)
    simp only [World.size_alloc] at eR eK eS eF
    generalize (((w.alloc (.cells #[.bool false] 4)).alloc (.cells #[.int .i64 at'.length] 3)).alloc (.cells #[.slice (some ⟨bp, op, none⟩) p.length cp] 22)).alloc (.cells #[.int .i64 s] 3) = Wi at *
    have hEi : ExtAt Bat Bq Bp Be bq oq cq bp op cp p q po qo Wi := hE.keep fun k hk => hkeep k (by rcases hk with rfl | rfl | rfl | rfl | rfl <;> omega)
    have hAi : AtRow B Bat at' (.slice A at'.length c) Wi := ⟨(hkeep _ (by omega)).trans hA.1, hA4⟩
    have hAlt := Boxed.lt hA.1
    have hcellR := own_is_cells hA.2
    clear bA bQ bP cA cQ cP hA4 hkeep
    refine wpIn_rangeFunc_ownH rfl (by omega) (gf := 102) (lb := #[.pointer (some ⟨w.heap.size + 1 + 1 + 1, 0, none⟩), .pointer (some ⟨w.heap.size + 1 + 1, 0, none⟩)]) rfl trivial (enters_of Try.func102 (by kernel_rfl) rfl)
      (values_stops Fence.wide 99 trivial rfl (by omega) (w.heap.size + 1 + 1 + 1) (w.heap.size + 1 + 1) bp op cp s p (by omega) (by omega) (KeepTwo bp (w.heap.size + 1 + 1)) (fun _ _ h => valsAt_keep h) Wi (by omega) (by omega) (by omega) (by simpa using eF.cell) ⟨eS.cell, fun j hj => hRp Wi hEi.rp j hj⟩)
      KeepTwo.trans (fun W l _ o' h _ _ _ => KeepTwo.put (B := Wi.heap.size) (by omega) (by omega) W l o' h) (Below.refl _ _) (fun _ => rfl)
      (ExtI B Bat Bq Bp Be bq oq cq bp op cp p q po qo f at' w (.slice A at'.length c)) (ExtX B Bat p q f at' w (.slice A at'.length c))
      ?hI ?hIx ?h0
      (fun x a' _ => a' = { tmps := #[.int .i64 (s : Nat), .pointer (some ⟨Bat, 0, none⟩), .pointer (some ⟨Bq, 0, none⟩), .pointer (some ⟨Bp, 0, none⟩), .pointer (some ⟨Be, 0, none⟩), undef, .pointer (some ⟨w.heap.size, 0, none⟩), .pointer (some ⟨w.heap.size + 1, 0, none⟩), .int .i64 (x.1 : Nat), .int .i64 ((p.getD x.1 0 : Nat) : Int), undef, undef, .slice A at'.length c, .int .i64 (at'.length : Nat), .int .i64 (at'.length : Nat), .slice (some ⟨bq, oq, none⟩) q.length cq, .int .i64 (q.length : Nat), .bool false, .slice (some ⟨bp, op, none⟩) p.length cp, .int .i64 (s : Nat), .func (.func 102) #[] #[.pointer (some ⟨w.heap.size + 1 + 1 + 1, 0, none⟩), .pointer (some ⟨w.heap.size + 1 + 1, 0, none⟩)], .int .i64 (x.1 : Nat), .int .i64 ((p.getD x.1 0 : Nat) : Int), undef, undef, undef, undef, undef, undef, undef, undef, undef, undef, undef, undef, undef, undef, undef, undef, undef, undef, undef, undef, undef, undef, undef, undef, undef, undef, undef, undef, undef, undef, undef, undef, undef, undef, undef], defers := [] })
      ?hAx ?assign ?body ?done ?stop
    case hI => exact ExtI.own (by omega) (by omega) (by omega)
    case hIx => exact fun cd => ExtX.own (by omega) cd
    case h0 => exact ⟨fun _ h => absurd h (by simp), ⟨hEi, eR, eK, eS⟩, ⟨_, hAi.1, hAi.2, fun g hg => .inl hg⟩, hG⟩
    case hAx => exact fun _ _ _ _ _ _ hs _ _ => hs
    case assign =>
      rintro l pre x X K hi hK
      unfold encV
      dsimp only at hK ⊢
      generalize p.getD x.1 0 = u at hK ⊢
      gi_wp2
      exact hK _ _ (KeepsFrom.refl _ _) (KeepTwo.refl _ _ _) hi rfl
    case body =>
      rintro l ys x a' X hl ⟨r, hr⟩ hIX rfl hlen
      have HIX := Lib.hid hIX
      obtain ⟨hno, ⟨hEX, eRX, eKX, eSX⟩, ⟨v', bV, hown, hblk⟩, hGX⟩ := hIX
      obtain ⟨A', c', rfl⟩ := own_slice' hown
      have cV := bV.cell
      have cK := Boxed.cell eKX
      have Hih := Lib.hid ih
      have Hhlt := Lib.hid hlt
      clear ih hlt
      have hxp := x.2
      generalize hux : p.getD x.1 0 = ux
      have Hux := Lib.hid hux
      clear hux
      gi_wp2
      gi_loopw [25] (fun jv wr => ∃ j n : Nat, j ≤ at'.length ∧ jv = .int .i64 j ∧ wr = X.drewN n ∧ ∀ k, k < j → (p.getD (at'.getD k 0) 0 < ux ↔ q.getD k 0 < q.getD at'.length 0)) (fun jv _ => at'.length - (intOf jv).toNat)
      case atStart => exact ⟨0, 0, Nat.zero_le _, rfl, rfl, fun k hk => absurd hk (by omega)⟩
      case round =>
        obtain ⟨j, n, hj, rfl, hwr, hfit⟩ := hrel
        have Hwr := Lib.hid hwr
        have Hfit := Lib.hid hfit
        clear hfit hwr
        by_cases hlt2 : j < at'.length
        · obtain ⟨g, cap, e⟩ := own_pos hown (by omega)
          injection e with e1 e2 e3
          subst e1 e3
          have cpos : wr.cell? ⟨g, j, none⟩ = some (.int .i64 (at'.getD j 0 : Nat)) := by rw [Hwr.out]; exact own_num hown j hlt2
          have c1 : wr.cell? ⟨bp, op + at'.getD j 0, none⟩ = some (.int .i64 (p.getD (at'.getD j 0) 0 : Nat)) := by rw [Hwr.out]; exact hRp X hEX.rp _ (Hhlt.out j hlt2)
          have c2 : wr.cell? ⟨bq, oq + j, none⟩ = some (.int .i64 (q.getD j 0 : Nat)) := by rw [Hwr.out]; exact hRq X hEX.rq j (by omega)
          have c3 : wr.cell? ⟨bq, oq + at'.length, none⟩ = some (.int .i64 (q.getD at'.length 0 : Nat)) := by rw [Hwr.out]; exact hRq X hEX.rq _ (by omega)
          have c4 : wr.cell? ⟨Bp, 0, none⟩ = some (.slice (some ⟨bp, op, none⟩) p.length cp) := by rw [Hwr.out]; exact Boxed.cell hEX.xp
          have c5 : wr.cell? ⟨Bq, 0, none⟩ = some (.slice (some ⟨bq, oq, none⟩) q.length cq) := by rw [Hwr.out]; exact Boxed.cell hEX.xq
          have c6 : wr.cell? ⟨w.heap.size + 1, 0, none⟩ = some (.int .i64 (at'.length : Nat)) := by rw [Hwr.out]; exact cK
          have hpos := Hhlt.out j hlt2
          have Hn := Lib.hid (fun (hh : p.getD (at'.getD j 0) 0 < ux ↔ q.getD j 0 < q.getD at'.length 0) => (fun k hk => by
            by_cases e : k = j
            · rw [e]; exact hh
            · exact Hfit.out k (by omega) : ∀ k, k < j + 1 → (p.getD (at'.getD k 0) 0 < ux ↔ q.getD k 0 < q.getD at'.length 0)))
          have Hno := Lib.hid (fun (hh : ¬ (p.getD (at'.getD j 0) 0 < ux ↔ q.getD j 0 < q.getD at'.length 0)) => (if_neg (fun hf => hh (by rw [← Hux.out]; exact fits_iff.1 hf j hlt2)) : tryAt p q (f + 1) at' x.1 = none))
          have Hkeep := Lib.hid (show KeepsFrom Wi.heap.size X wr ∧ KeepTwo bp (w.heap.size + 1 + 1) X wr from by rw [Hwr.out]; exact ⟨⟨Nat.le_refl _, fun _ _ _ h _ => h⟩, rfl, rfl⟩)
          generalize at'.getD j 0 = pos at *
          generalize p.getD pos 0 = a1 at *
          generalize q.getD j 0 = b1 at *
          generalize q.getD at'.length 0 = b2 at *
          by_cases h1 : a1 < ux <;> by_cases h2 : b1 < b2
          all_goals
            gi_wp2
            refine region_quiet_round l (by kernel_rfl) (by kernel_rfl) (by kernel_rfl) ?_
            repeat (gi_big_quiet_step (fail))
            refine wpQuietIn_nil ?_
            rintro _ ⟨nq, rfl⟩
            gi_wp2
          · go_roundw
            case rel => exact ⟨j + 1, n + nq, by omega, by go_num, by rw [Hwr.out, World.drewN_drewN], Hn.out ⟨fun _ => h2, fun _ => h1⟩⟩
            case measure => simp [intOf]; omega
          · exact ⟨⟨Hkeep.out.1.1, Hkeep.out.1.2⟩, Hkeep.out.2, by rw [Hwr.out]; exact ((HIX.out.drewN n).drewN nq).more (Hno.out fun h => h2 (h.1 h1))⟩
          · exact ⟨⟨Hkeep.out.1.1, Hkeep.out.1.2⟩, Hkeep.out.2, by rw [Hwr.out]; exact ((HIX.out.drewN n).drewN nq).more (Hno.out fun h => h1 (h.2 h2))⟩
          · go_roundw
            case rel => exact ⟨j + 1, n + nq, by omega, by go_num, by rw [Hwr.out, World.drewN_drewN], Hn.out ⟨fun h => absurd h h1, fun h => absurd h h2⟩⟩
            case measure => simp [intOf]; omega
        · obtain rfl : j = at'.length := by omega
          have hfits : fits p q at' x.1 = true := fits_iff.2 (by rw [Hux.out]; exact Hfit.out)
          have Htry := Lib.hid (show tryAt p q (f + 1) at' x.1 = ext p q (f + 1) (at' ++ [x.1]) (x.1 + 1) from if_pos hfits)
          clear hfits hno
          have hGX' : GRow Bat (Value.slice A' at'.length c').ownBlock X wr := by rw [Hwr.out]; exact (GRow.refl _ _ X).drewN n
          have bY : Boxed wr Bat 22 (.slice A' at'.length c') := by rw [Hwr.out]; exact bV
          have hE4 : ∀ W : World, GRow Bat (Value.slice A' at'.length c').ownBlock X W → ExtAt Bat Bq Bp Be bq oq cq bp op cp p q po qo W := fun W hW => hEX.keep fun k hk => by
            have hkB : k < B ∧ k ≠ Bat := by rcases hk with rfl | rfl | rfl | rfl | rfl <;> omega
            exact hW.block k (by have := hGX.size; omega) hkB.2 (own_not hown hkB.1)
          have hownY : (wr.alloc (.cells #[.int .i64 (x.1 : Nat)] 3)).ownsRow B 3 1 (.slice A' at'.length c') at'.length (nums .i64 at') := by rw [Hwr.out]; exact (own_row_drewN hown n).alloc _
          have hBY : B ≤ (wr.alloc (.cells #[.int .i64 (x.1 : Nat)] 3)).heap.size := by have := hGX.size; have := hGX'.size; simp; omega
          have hszY : (wr.alloc (.cells #[.int .i64 (x.1 : Nat)] 3)).heap.size = wr.heap.size + 1 := by simp
          have h63 : at'.length + 1 ≤ maxLen := by unfold maxLen; omega
          have h47 : (at'.length + 1) * 8 ≤ 140737488355328 := by omega
          obtain ⟨i0, hi, hz0, hz1, hz2⟩ := info_parts info_int'
          have cY := (bY.alloc (.cells #[.int .i64 (x.1 : Nat)] 3)).cell
          have cY0 := bY.cell
          have HE4 := Lib.hid hE4
          have hnb := own_not hown hBs.1
          have hbYl := Boxed.lt (bY.alloc (.cells #[.int .i64 (x.1 : Nat)] 3))
          clear hE4
          gi_wp2_with (gi_at_builtin; refine Hid.out ?_)
          refine Lib.hid ?_
          refine wpListIn_append_lies rfl _ _ _ rfl B 3 i0 _ 1 8 Try.underlying22 hi hz0 hz1 hz2 rfl (Nat.succ_pos 0) (.slice A' at'.length c') at'.length (nums .i64 at') rfl hownY ⟨wr.heap.size, 0, none⟩ 1 1 [.int .i64 (x.1 : Nat)] rfl rfl (cell_one_new _ _ _) (one_cell _ rfl) Nat.one_pos h63 h47 hBY (wr.heap.size + 1) hszY ?_
          intro gg cg w3 hown3 hgrow3 hat3 hlt3
          have bV3 : Boxed w3 Bat 22 (.slice A' at'.length c') := (hgrow3.block Bat hbYl hnb).trans (bY.alloc _)
          have fV3 := bV3.frozen
          have hE5 := HE4.out (w3.setCell ⟨Bat, 0, none⟩ (.slice (some ⟨gg, 0, none⟩) (at'.length + 1) cg)) (((hGX'.alloc _).grown hgrow3).setCell 0 _)
          have cE5 := Boxed.cell hE5.xe
          have hG5 : GRow Bat (Value.slice A' at'.length c').ownBlock X (w3.setCell ⟨Bat, 0, none⟩ (.slice (some ⟨gg, 0, none⟩) (at'.length + 1) cg)) := ((hGX'.alloc _).grown hgrow3).setCell 0 _
          have bV5 := Boxed.set (.slice (some ⟨gg, 0, none⟩) (at'.length + 1) cg) bV3
          have hown5 : (w3.setCell ⟨Bat, 0, none⟩ (.slice (some ⟨gg, 0, none⟩) (at'.length + 1) cg)).ownsRow B 3 1 (.slice (some ⟨gg, 0, none⟩) (at'.length + 1) cg) (at'.length + 1) (nums .i64 (at' ++ [x.1])) := by
            rw [← nums_snoc]
            refine own_stay hown3 fun k hk => Below.heap_setCell _ _ _ _ ?_
            have := (own_lt hown3).2
            obtain rfl : gg = k := by simpa [Value.ownBlock] using hk
            show gg ≠ Bat
            omega
          have hgg : (Value.slice A' at'.length c').ownBlock = some gg ∨ X.heap.size ≤ gg := by
            rcases hat3 with h | h
            · exact .inl h
            · exact .inr (by have := hGX'.size; omega)
          have hcall := Hih.out (at' ++ [x.1]) (x.1 + 1) (.slice (some ⟨gg, 0, none⟩) (at'.length + 1) cg) (w3.setCell ⟨Bat, 0, none⟩ (.slice (some ⟨gg, 0, none⟩) (at'.length + 1) cg)) (by rw [List.length_append, List.length_singleton]; omega)
            (fun k hk => by
              rw [List.length_append, List.length_singleton] at hk
              by_cases e : k = at'.length
              · rw [e, app_new]; exact hxp
              · rw [app_old (by omega)]; exact Hhlt.out k (by omega)) (by omega) (by have := hG5.size; have := hGX.size; omega) hE5 ⟨bV5, by rw [List.length_append, List.length_singleton]; exact hown5⟩
          rw [show ((x.1 + 1 : Nat) : Int) = (x.1 : Int) + 1 from rfl, ← Htry.out] at hcall
          have Hcall := Lib.hid (CallsIn.inRound l (callsIn_wide (n := 97).2 (callsIn_wide.1 hcall)))
          clear hcall
          have cV3 := bV3.cell
          clear bY hownY hBY hszY cY cY0 hown3 hgrow3 hat3
          gi_wp2_with (refine ⟨trivial, ?_⟩; gi_at_call 98; refine Hid.out ?_)
          refine Lib.hid ?_
          refine Hcall.out.mono ?_
          clear Hcall cE5 hE5 cV3 fV3 bV3 bV5
          generalize w3.setCell ⟨Bat, 0, none⟩ (.slice (some ⟨gg, 0, none⟩) (at'.length + 1) cg) = w4 at *
          rintro e w5 ⟨rfl, v5, hA5, hblk5, hG45⟩
          have hvl : ∀ k, (Value.slice A at'.length c).ownBlock = some k → k < w.heap.size := fun k hk => by
            obtain ⟨⟨cs, z, hc⟩, -⟩ := hcellR k hk
            exact (Array.getElem?_eq_some_iff.1 hc).1
          have hG : GRow Bat (Value.slice A' at'.length c').ownBlock X w5 := hG5.trans' hG45 fun k hk => by
            obtain rfl : gg = k := by simpa [Value.ownBlock] using hk
            exact hgg
          have hX4 : w.heap.size + 4 ≤ X.heap.size := by have := (Array.getElem?_eq_some_iff.1 hr).1; omega
          have hblk6 : ∀ g, v5.ownBlock = some g → (Value.slice A at'.length c).ownBlock = some g ∨ w.heap.size + 4 ≤ g := fun g hg => by
            have hXs := hGX.size
            have h1 := hG5.size
            rcases hblk5 g hg with h | h
            · obtain rfl : gg = g := by simpa [Value.ownBlock] using h
              rcases hgg with h2 | h2
              · exact hblk _ h2
              · exact .inr (by omega)
            · exact .inr (by omega)
          have hGw : GRow Bat (Value.slice A at'.length c).ownBlock w w5 := hGX.trans' hG fun k hk => by
            rcases hblk k hk with h | h
            · exact .inl h
            · exact .inr (by omega)
          have hE6 := HE4.out w5 hG
          have hnr : ∀ k, w.heap.size ≤ k → k < w.heap.size + 4 → w5.heap[k]? = X.heap[k]? := fun k h1 h2 => hG.block k (by omega) (by omega) (fun e => by
            rcases hblk k e.symm with h | h
            · have := hvl k h; omega
            · omega)
          have eR6 := (hnr _ (by omega) (by omega)).trans eRX
          have eK6 := (hnr _ (by omega) (by omega)).trans eKX
          have eS6 := (hnr _ (by omega) (by omega)).trans eSX
          have hKF : KeepsFrom Wi.heap.size X w5 := hG.keeps ⟨_, _, _, bV⟩ fun k hk => by
            obtain ⟨⟨cs, z, hc⟩, -⟩ := own_is_cells hown k hk
            exact ⟨cs, _, z, hc⟩
          have hKT : KeepTwo bp (w.heap.size + 1 + 1) X w5 := ⟨hE6.rp.trans hEX.rp.symm, eS6.trans eSX.symm⟩
          clear hG hG5 hG45 hEX eRX eKX eSX bV hown hblk hGX hnr hgg hblk5 hEi hAi hE hA eF eR eK eS cV cK
          obtain ⟨bA5, hown5⟩ := hA5
          cases ho : tryAt p q (f + 1) at' x.1 with
          | some r =>
            rw [ho] at hown5
            have Ho := Lib.hid ho
            clear ho
            have bR6 : Boxed w5 w.heap.size 4 (.bool false) := eR6
            have cR6 := bR6.cell
            have fR6 := bR6.frozen
            have hX : ExtX B Bat p q f at' w (.slice A at'.length c) .ret (ys ++ [x]) (w5.setCell ⟨w.heap.size, 0, none⟩ (.bool true)) := by
              refine ⟨⟨ys, x, r, rfl, rfl, HIX.out.1, Ho.out, v5, (Below.heap_setCell _ _ _ _ (by show Bat ≠ w.heap.size; omega)).trans bA5, own_stay hown5 fun k hk => Below.heap_setCell _ _ _ _ (by
                show k ≠ w.heap.size
                intro e
                rcases hblk6 k hk with h | h
                · have := hvl k h; omega
                · omega), hblk6⟩, Boxed.set (.bool true) bR6, ?_⟩
              exact ⟨hGw.os, hGw.tape, hGw.output, by simpa [World.setCell] using hGw.size, fun k hk h1 h2 => (Below.heap_setCell _ _ _ _ (by show k ≠ w.heap.size; omega)).trans (hGw.block k hk h1 h2)⟩
            have HX := Lib.hid hX
            clear hX hown5 bA5 hblk6
            gi_wp2
            exact ⟨hKF.trans ((KeepsOthers.setCell _ _ _).from _), HX.out⟩
          | none =>
            rw [ho] at hown5
            have Ho := Lib.hid ho
            clear ho
            have hown6 : w5.ownsRow B 3 1 v5 (at' ++ [x.1]).length (nums .i64 (at' ++ [x.1])) := hown5
            rw [List.length_append, List.length_singleton] at hown6
            clear hown5
            obtain ⟨g5, c5, rfl⟩ := own_pos hown6 (by omega)
            have hcap := own_capd hown6
            have bA6 : Boxed w5 Bat 22 (.slice (some ⟨g5, 0, none⟩) (at'.length + 1) c5) := bA5
            have cA6 := bA6.cell
            have fA6 := bA6.frozen
            have cK6 := Boxed.cell eK6
            have hg5 := (own_lt hown6).2
            have hI : ExtI B Bat Bq Bp Be bq oq cq bp op cp p q po qo f at' w (.slice A at'.length c) (ys ++ [x]) (w5.setCell ⟨Bat, 0, none⟩ (.slice (some ⟨g5, 0, none⟩) at'.length c5)) := by
              have hk1 : ∀ k, k ≠ Bat → (w5.setCell ⟨Bat, 0, none⟩ (.slice (some ⟨g5, 0, none⟩) at'.length c5)).heap[k]? = w5.heap[k]? := fun k hk => Below.heap_setCell _ _ _ _ hk
              refine ExtI.more ⟨HIX.out.1, ⟨hE6.keep fun k hk => hk1 k (by rcases hk with rfl | rfl | rfl | rfl | rfl <;> omega), (hk1 _ (by omega)).trans eR6, (hk1 _ (by omega)).trans eK6, (hk1 _ (by omega)).trans eS6⟩,
                ⟨_, Boxed.set _ bA6, own_stay (w := w5) ?_ fun k hk => hk1 k (by
                  obtain rfl : g5 = k := by simpa [Value.ownBlock] using hk
                  omega), hblk6⟩, hGw.setCell 0 _⟩ Ho.out
              have := own_take hown6 (m := at'.length) (by omega)
              rwa [List.take_left] at this
            have HI := Lib.hid hI
            clear hI hown6 bA5 bA6 hblk6
            gi_wp2
            exact ⟨hKF.trans ((KeepsOthers.setCell _ _ _).from _), ⟨(Below.heap_setCell _ _ _ _ (by show bp ≠ Bat; omega)).trans hKT.1, (Below.heap_setCell _ _ _ _ (by show w.heap.size + 1 + 1 ≠ Bat; omega)).trans hKT.2⟩, HI.out⟩
    case done =>
      rintro D ys X hD hS hI hK
      have hno : Nope p q (f + 1) at' s (p.length - s) := fun i h1 h2 => by
        obtain ⟨y, hy, rfl⟩ := upto_mem hS i h1 h2
        exact hI.1 y hy
      have Hres := Lib.hid (ext_none hal hno)
      have hbR : Boxed X w.heap.size 4 (.bool false) := hI.2.1.2.1
      have cR := hbR.cell
      have fR := hbR.frozen
      have hvl : ∀ k, (Value.slice A at'.length c).ownBlock = some k → k < w.heap.size := fun k hk => by
        obtain ⟨⟨cs, z, hc⟩, -⟩ := hcellR k hk
        exact (Array.getElem?_eq_some_iff.1 hc).1
      have hI2 : ExtI B Bat Bq Bp Be bq oq cq bp op cp p q po qo f at' w (.slice A at'.length c) ys (X.setCell ⟨w.heap.size, 0, none⟩ (.bool false)) := by
        obtain ⟨a1, ⟨a2, a3, a4, a5⟩, ⟨v', b1, b2, b3⟩, a7⟩ := hI
        have hk1 : ∀ k, k ≠ w.heap.size → (X.setCell ⟨w.heap.size, 0, none⟩ (.bool false)).heap[k]? = X.heap[k]? := fun k hk => Below.heap_setCell _ _ _ _ hk
        refine ⟨a1, ⟨a2.keep fun k hk => hk1 k (by rcases hk with rfl | rfl | rfl | rfl | rfl <;> omega), Boxed.set (.bool false) hbR, (hk1 _ (by omega)).trans a4, (hk1 _ (by omega)).trans a5⟩, ⟨v', (hk1 _ (by omega)).trans b1, own_stay b2 fun k hk => hk1 k (by
          rcases b3 k hk with h | h
          · have := hvl k h; omega
          · omega), b3⟩, ?_⟩
        exact ⟨a7.os, a7.tape, a7.output, by simpa [World.setCell] using a7.size, fun k hk h1 h2 => (hk1 k (by omega)).trans (a7.block k hk h1 h2)⟩
      have HI2 := Lib.hid hI2
      have hD2 : (X.setCell ⟨w.heap.size, 0, none⟩ (.bool false)).heap[D]? = some (.deferred (some [])) := (Below.heap_setCell _ _ _ _ (by show D ≠ w.heap.size; omega)).trans hK
      clear hI hI2 hbR hno hS
      gi_wp2
      rw [Exit.noGoto_ret]
      refine leaves_marks (B := w.heap.size) (T := fun X => ExtI B Bat Bq Bp Be bq oq cq bp op cp p q po qo f at' w (.slice A at'.length c) ys X) (fun X D hB hD h => (ExtI.own (C := w.heap.size) (by omega) (by omega) (Nat.le_refl _)).putObj (s := ys) _ h hB hD rfl) (fun X h => ?_) [D] _ ((Marked.nil w.heap.size _).cons (by omega) hD2 (by simp)) HI2.out
      have c1 := Boxed.cell h.2.1.2.1
      obtain ⟨v', b1, b2, b3⟩ := h.2.2.1
      refine ⟨.bool false, by simp [results, Try.f98, go_sem, c1], by rw [Hres.out]; rfl, v', ?_, fun g hg => (b3 g hg).imp id (fun h => by omega), h.2.2.2⟩
      rw [Hres.out]
      exact ⟨b1, b2⟩
    case stop =>
      rintro D cd ys X hD hSp hX hK
      obtain ⟨ini, y, r, rfl, rfl, hno, htry, -⟩ := hX.1
      obtain ⟨k, hk, hU⟩ := hSp
      have hu := upto_last hU
      have hres : ext p q (f + 1 + 1) at' s = some r := by
        refine ext_some (k := k - 1) hal (by have := y.2; omega) (fun i h1 h2 => ?_) (by rw [← hu.2.1]; exact htry)
        obtain ⟨y', hy', rfl⟩ := upto_mem hu.1 i h1 h2
        exact hno y' hy'
      have Hres := Lib.hid hres
      have HX := Lib.hid hX
      have Hr := Lib.hid htry
      clear hres hX hU hu hno htry
      gi_wp2
      rw [Exit.noGoto_ret]
      refine leaves_marks (B := w.heap.size) (T := fun X => ExtX B Bat p q f at' w (.slice A at'.length c) .ret (ini ++ [y]) X) (fun X D hB hD h => (ExtX.own (C := w.heap.size) (Nat.le_refl _) .ret).putObj (s := ini ++ [y]) _ h hB hD rfl) (fun X h => ?_) [D] _ ((Marked.nil w.heap.size _).cons (by omega) hK (by simp)) HX.out
      have c1 := Boxed.cell h.2.1
      obtain ⟨ini', y', r', -, e2, -, e4, v', b1, b2, b3⟩ := h.1
      obtain ⟨-, e3⟩ := List.append_inj' e2 rfl
      obtain rfl : y = y' := by simpa using e3
      rw [Hr.out] at e4
      obtain rfl : r = r' := by simpa using e4
      refine ⟨.bool true, by simp [results, Try.f98, go_sem, c1], by rw [Hres.out]; rfl, v', ?_, fun g hg => (b3 g hg).imp id (fun h => by omega), h.2.2⟩
      rw [Hres.out]
      exact ⟨b1, b2⟩

end Go.Proofs.Ytcklgdcjedikoaa

namespace Go.Proofs.Ytcklgdcjedikoaa
open Go.RowKit Go.Shelf

theorem run_store_func {P : Program} {w : World} {a : Addr} {m : Mode} (fn : Fn) (xs ys : Array Value) : (store a (.func fn xs ys) m).run P w = stored P w a (.func fn xs ys) m := run_store P w a _ m rfl
attribute [local go_sem] run_store_func

/-- What occurrence returns. -/
def RetOcc (p q : List Nat) (w : World) (e : Ending) (w' : World) : Prop :=
  ((occ p q = none ∧ e = .returned (.tuple #[.slice none 0 0, .bool false])) ∨
    (∃ r g c, occ p q = some r ∧ e = .returned (.tuple #[.slice (some ⟨g, 0, none⟩) r.length c, .bool true]) ∧ Sl .i64 w' (some ⟨g, 0, none⟩) r.length r)) ∧ Below w.heap.size w w'

set_option maxRecDepth 100000 in
set_option maxHeartbeats 4000000 in
theorem occurrence_any (b off n cap b' off' n' cap' : Nat) (p q : List Nat) (w : World) (hS : Sl .i64 w (some ⟨b, off, none⟩) n p) (hT : Sl .i64 w (some ⟨b', off', none⟩) n' q) (hn : n ≤ 60) (h0 : 0 < n) (hn' : n' ≤ 6) (h0' : 0 < n') :
    Calls Try.prog 70 #[.slice (some ⟨b, off, none⟩) n cap, .slice (some ⟨b', off', none⟩) n' cap'] w (RetOcc p q w) := by
  obtain ⟨po, hpo, hRp⟩ := rowAt_of hS h0
  obtain ⟨qo, hqo, hRq⟩ := rowAt_of hT h0'
  have hl := hS.len
  have hl' := hT.len
  subst hl hl'
  have hbl : b < w.heap.size := (Array.getElem?_eq_some_iff.1 hpo).1
  have hbl' : b' < w.heap.size := (Array.getElem?_eq_some_iff.1 hqo).1
  have hmf : ∀ (fn : Fn) (first cap : Array Value) (w : World), (Instr.makeFunc fn first cap).run Try.prog w = .ok (.func fn first cap) w := fun _ _ _ _ => rfl
  have n3 := Boxed.new (((w.alloc (.cells #[.slice (some ⟨b, off, none⟩) p.length cap] 22)).alloc (.cells #[.slice (some ⟨b', off', none⟩) q.length cap'] 22)).alloc (.cells #[.slice none 0 0] 22)) 77 .nilFunc
  have e0 := (((Boxed.new w 22 (.slice (some ⟨b, off, none⟩) p.length cap)).alloc (.cells #[.slice (some ⟨b', off', none⟩) q.length cap'] 22)).alloc (.cells #[.slice none 0 0] 22)).alloc (.cells #[.func (.func 98) #[] #[.pointer (some ⟨w.heap.size + 1 + 1, 0, none⟩), .pointer (some ⟨w.heap.size + 1, 0, none⟩), .pointer (some ⟨w.heap.size, 0, none⟩), .pointer (some ⟨w.heap.size + 1 + 1 + 1, 0, none⟩)]] 77)
  have e1 := ((Boxed.new (w.alloc (.cells #[.slice (some ⟨b, off, none⟩) p.length cap] 22)) 22 (.slice (some ⟨b', off', none⟩) q.length cap')).alloc (.cells #[.slice none 0 0] 22)).alloc (.cells #[.func (.func 98) #[] #[.pointer (some ⟨w.heap.size + 1 + 1, 0, none⟩), .pointer (some ⟨w.heap.size + 1, 0, none⟩), .pointer (some ⟨w.heap.size, 0, none⟩), .pointer (some ⟨w.heap.size + 1 + 1 + 1, 0, none⟩)]] 77)
  have e2 := (Boxed.new ((w.alloc (.cells #[.slice (some ⟨b, off, none⟩) p.length cap] 22)).alloc (.cells #[.slice (some ⟨b', off', none⟩) q.length cap'] 22)) 22 (.slice none 0 0)).alloc (.cells #[.func (.func 98) #[] #[.pointer (some ⟨w.heap.size + 1 + 1, 0, none⟩), .pointer (some ⟨w.heap.size + 1, 0, none⟩), .pointer (some ⟨w.heap.size, 0, none⟩), .pointer (some ⟨w.heap.size + 1 + 1 + 1, 0, none⟩)]] 77)
  have e3 := Boxed.new (((w.alloc (.cells #[.slice (some ⟨b, off, none⟩) p.length cap] 22)).alloc (.cells #[.slice (some ⟨b', off', none⟩) q.length cap'] 22)).alloc (.cells #[.slice none 0 0] 22)) 77 (.func (.func 98) #[] #[.pointer (some ⟨w.heap.size + 1 + 1, 0, none⟩), .pointer (some ⟨w.heap.size + 1, 0, none⟩), .pointer (some ⟨w.heap.size, 0, none⟩), .pointer (some ⟨w.heap.size + 1 + 1 + 1, 0, none⟩)])
  have hbel : Below w.heap.size w ((((w.alloc (.cells #[.slice (some ⟨b, off, none⟩) p.length cap] 22)).alloc (.cells #[.slice (some ⟨b', off', none⟩) q.length cap'] 22)).alloc (.cells #[.slice none 0 0] 22)).alloc (.cells #[.func (.func 98) #[] #[.pointer (some ⟨w.heap.size + 1 + 1, 0, none⟩), .pointer (some ⟨w.heap.size + 1, 0, none⟩), .pointer (some ⟨w.heap.size, 0, none⟩), .pointer (some ⟨w.heap.size + 1 + 1 + 1, 0, none⟩)]] 77)) :=
    ((((Below.refl _ w).alloc (Nat.le_refl _) _).alloc (by simp) _).alloc (by simp; omega) _).alloc (by simp; omega) _
  have hsz : ((((w.alloc (.cells #[.slice (some ⟨b, off, none⟩) p.length cap] 22)).alloc (.cells #[.slice (some ⟨b', off', none⟩) q.length cap'] 22)).alloc (.cells #[.slice none 0 0] 22)).alloc (.cells #[.func (.func 98) #[] #[.pointer (some ⟨w.heap.size + 1 + 1, 0, none⟩), .pointer (some ⟨w.heap.size + 1, 0, none⟩), .pointer (some ⟨w.heap.size, 0, none⟩), .pointer (some ⟨w.heap.size + 1 + 1 + 1, 0, none⟩)]] 77)).heap.size = w.heap.size + 4 := by simp
  simp only [World.size_alloc] at e0 e1 e2 e3 n3
  have c3 := n3.cell
  have f3 := n3.frozen
  have k3 := e3.cell
  have hcall := callsIn_wide.1 (ext_in (w.heap.size + 4) (w.heap.size + 1 + 1) (w.heap.size + 1) w.heap.size (w.heap.size + 1 + 1 + 1) b' off' cap' b off cap p q po qo hRp hRq hn' hn (by omega) (by omega) q.length [] 0 (.slice none 0 0) ((((w.alloc (.cells #[.slice (some ⟨b, off, none⟩) p.length cap] 22)).alloc (.cells #[.slice (some ⟨b', off', none⟩) q.length cap'] 22)).alloc (.cells #[.slice none 0 0] 22)).alloc (.cells #[.func (.func 98) #[] #[.pointer (some ⟨w.heap.size + 1 + 1, 0, none⟩), .pointer (some ⟨w.heap.size + 1, 0, none⟩), .pointer (some ⟨w.heap.size, 0, none⟩), .pointer (some ⟨w.heap.size + 1 + 1 + 1, 0, none⟩)]] 77)) (by simp) (fun k hk => absurd hk (by simp)) (by omega) (by omega)
    ⟨e1, e0, e3, (hbel.block _ hbl).trans hpo, (hbel.block _ hbl').trans hqo⟩ ⟨e2, World.ownsRow_nil _ _ _ _⟩)
  have Hcall := Lib.hid hcall
  have Hbel := Lib.hid hbel
  have Hsz := Lib.hid hsz
  clear hcall hbel hsz n3 e0 e1 e2 e3
  go_enter Try.func70, Try.ntmps70
  go_wp2_with (go_at_call 98; refine Hid.out ?_)
  refine Lib.hid ?_
  refine Hcall.out.mono ?_
  clear Hcall
  rintro e w2 ⟨rfl, v2, ⟨bV, hown⟩, -, hG⟩
  have hb2 : Below w.heap.size w w2 := Hbel.out.trans (hG.below (B := w.heap.size) (by omega) (fun k hk => by cases hk) (by rw [Hsz.out]; omega))
  have HG := Lib.hid hG
  clear hG
  cases ho : ext p q (q.length + 1) [] 0 with
  | none =>
    have Ho := Lib.hid (show occ p q = none from ho)
    clear ho hown
    go_wp2
    go_ret2
    exact ⟨.inl ⟨Ho.out, rfl⟩, hb2⟩
  | some r =>
    rw [ho] at hown
    have Ho := Lib.hid (show occ p q = some r from ho)
    have hrl := (occ_like Ho.out).2
    have hown : w2.ownsRow (w.heap.size + 4) 3 1 v2 r.length (nums .i64 r) := hown
    obtain ⟨g, c, rfl⟩ := own_pos hown (by omega)
    have cV : w2.cell? ⟨w.heap.size + 1 + 1, 0, none⟩ = some (.slice (some ⟨g, 0, none⟩) r.length c) := Boxed.cell bV
    have Hown := Lib.hid (own_sl hown (by omega))
    clear ho hown bV hrl
    go_wp2
    go_ret2
    exact ⟨.inr ⟨r, g, c, Ho.out, rfl, Hown.out⟩, hb2⟩

set_option maxRecDepth 100000 in
set_option maxHeartbeats 1000000 in
/-- checkAll of two permutations. -/
theorem checkAll_two (g b off n cap b' off' n' cap' : Nat) (p q : List Nat) (w : World) (hS : Sl .i64 w (some ⟨b, off, none⟩) n p) (hT : Sl .i64 w (some ⟨b', off', none⟩) n' q) (hp : IsPerm p) (hq : IsPerm q) (hn : n ≤ 60) (h0 : 0 < n) (hn' : n' ≤ 60) (h0' : 0 < n')
    (hg : g < w.heap.size) (c0 : w.cell? ⟨g, 0, none⟩ = some (.slice (some ⟨b, off, none⟩) n cap)) (c1 : w.cell? ⟨g, 1, none⟩ = some (.slice (some ⟨b', off', none⟩) n' cap')) :
    Calls Try.prog 69 #[.slice (some ⟨g, 0, none⟩) 2 2] w fun e w' => e = .returned (.int .i64 0) ∧ Below w.heap.size w w' := by
  have H1 := Lib.hid (fun W (hW : Below w.heap.size w W) => check_perm b off n cap p W (hS.below hW) hp hn h0)
  have H2 := Lib.hid (fun W (hW : Below w.heap.size w W) => check_perm b' off' n' cap' q W (hT.below hW) hq hn' h0')
  go_enter Try.func69, Try.ntmps69
  go_wp2_with fail
  go_loopw [8] (fun i wr => ∃ k : Nat, k ≤ 2 ∧ i = .int .i64 k ∧ Below w.heap.size w wr) (fun i _ => 2 - (intOf i).toNat)
  case atStart => exact ⟨0, by omega, rfl, Below.refl _ _⟩
  case round =>
    obtain ⟨k, hk, rfl, hb⟩ := hrel
    have d0 := (hb.cell (p := ⟨g, 0, none⟩) hg).trans c0
    have d1 := (hb.cell (p := ⟨g, 1, none⟩) hg).trans c1
    have k1 := H1.out wr hb
    have k2 := H2.out wr hb
    have K1 := Lib.hid k1
    have K2 := Lib.hid k2
    clear k1 k2 c0 c1
    match k, hk with
    | 0, _ =>
      go_wp2_with (go_at_call 16; refine K1.out.mono ?_; rintro e w1 ⟨rfl, hb1⟩)
      go_roundw
      case rel => exact ⟨1, by omega, rfl, hb.trans (hb1.mono hb.size)⟩
      case measure => simp [intOf]
    | 1, _ =>
      go_wp2_with (go_at_call 16; refine K2.out.mono ?_; rintro e w1 ⟨rfl, hb1⟩)
      go_roundw
      case rel => exact ⟨2, by omega, rfl, hb.trans (hb1.mono hb.size)⟩
      case measure => simp [intOf]
    | 2, _ =>
      go_wp2_with fail
      go_ret
      exact ⟨rfl, hb⟩

/-- What Find returns of two permutations, the second one short. -/
def RetFind (p q : List Nat) (w : World) (e : Ending) (w' : World) : Prop :=
  ((occ p q = none ∧ e = .returned (.tuple #[.slice none 0 0, .bool false, .int .i64 0])) ∨
    (∃ r g c, occ p q = some r ∧ e = .returned (.tuple #[.slice (some ⟨g, 0, none⟩) r.length c, .bool true, .int .i64 0]) ∧ Sl .i64 w' (some ⟨g, 0, none⟩) r.length r)) ∧ Below w.heap.size w w'

set_option maxRecDepth 100000 in
set_option maxHeartbeats 1000000 in
theorem find_any (b off n cap b' off' n' cap' : Nat) (p q : List Nat) (w : World) (hS : Sl .i64 w (some ⟨b, off, none⟩) n p) (hT : Sl .i64 w (some ⟨b', off', none⟩) n' q) (hp : IsPerm p) (hq : IsPerm q) (hn : n ≤ 60) (h0 : 0 < n) (hn' : n' ≤ 6) (h0' : 0 < n') :
    Calls Try.prog 22 #[.slice (some ⟨b, off, none⟩) n cap, .slice (some ⟨b', off', none⟩) n' cap'] w (RetFind p q w) := by
  have hbel := below_new' w (.cells #[.slice (some ⟨b, off, none⟩) n cap, .slice (some ⟨b', off', none⟩) n' cap'] 22)
  have hblk := Blk.new w 22 #[.slice (some ⟨b, off, none⟩) n cap, .slice (some ⟨b', off', none⟩) n' cap']
  have HC := Lib.hid (checkAll_two w.heap.size b off n cap b' off' n' cap' p q _ (hS.below hbel) (hT.below hbel) hp hq hn h0 (by omega) h0' hblk.lt (hblk.cell 0) (hblk.cell 1))
  have Hbel := Lib.hid hbel
  have HO := Lib.hid (fun W (hW : Below w.heap.size w W) => occurrence_any b off n cap b' off' n' cap' p q W (hS.below hW) (hT.below hW) hn h0 hn' h0')
  have hd : decide ((n' : Int) > 6) = false := decide_eq_false (by omega)
  have hd2 : decide ((6 : Int) < n') = false := decide_eq_false (by omega)
  clear hbel hblk
  go_enter Try.func22, Try.ntmps22
  go_wp2_with (go_at_call 69; refine Hid.out ?_)
  refine Lib.hid ?_
  refine HC.out.mono ?_
  rintro e w1 ⟨rfl, hb1⟩
  have hb := Hbel.out.trans (hb1.mono Hbel.out.size)
  have Hb := Lib.hid hb
  have HO1 := Lib.hid (HO.out w1 hb)
  clear hb1 hb HC HO
  go_wp2_with (go_at_call 70; refine Hid.out ?_)
  refine Lib.hid ?_
  refine HO1.out.mono ?_
  rintro e w2 ⟨⟨ho, rfl⟩ | ⟨r, g, c, ho, rfl, hs⟩, hb2⟩
  · have Ho := Lib.hid ho
    clear ho
    go_wp2
    go_ret3
    exact ⟨.inl ⟨Ho.out, rfl⟩, Hb.out.trans (hb2.mono Hb.out.size)⟩
  · have Ho := Lib.hid (show _ ∧ _ from ⟨ho, hs⟩)
    clear ho hs
    go_wp2
    go_ret3
    exact ⟨.inr ⟨r, g, c, Ho.out.1, rfl, Ho.out.2⟩, Hb.out.trans (hb2.mono Hb.out.size)⟩

end Go.Proofs.Ytcklgdcjedikoaa
