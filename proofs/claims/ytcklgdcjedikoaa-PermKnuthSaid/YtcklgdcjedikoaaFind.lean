/-
  The walks of occurrence and Find.
-/
import Derived.Test.YtcklgdcjedikoaaExt
import Derived.Test.YtcklgdcjedikoaaChk
namespace Go.Proofs.Ytcklgdcjedikoaa
open Go.RowKit Go.Shelf

theorem run_store_func {P : Program} {w : World} {a : Addr} {m : Mode} (fn : Fn) (xs ys : Array Value) : (store a (.func fn xs ys) m).run P w = stored P w a (.func fn xs ys) m := run_store P w a _ m rfl
attribute [local go_sem] run_store_func

/-- What occurrence returns. -/
def RetOcc (p q : List Nat) (w : World) (e : Ending) (w' : World) : Prop :=
  ((occ p q = none ∧ e = .returned (.tuple #[.slice none 0 0, .bool false])) ∨
    (∃ r g c, occ p q = some r ∧ e = .returned (.tuple #[.slice (some ⟨g, 0, none⟩) r.length c, .bool true]) ∧ Sl .i64 w' (some ⟨g, 0, none⟩) r.length r)) ∧ Below w.heap.size w w'

set_option maxRecDepth 100000 in
set_option maxHeartbeats 4000000 in
theorem occurrence_any (b off n cap b' off' n' cap' : Nat) (p q : List Nat) (w : World) (hS : Sl .i64 w (some ⟨b, off, none⟩) n p) (hT : Sl .i64 w (some ⟨b', off', none⟩) n' q) (hn : n ≤ 60) (h0 : 0 < n) (hn' : n' ≤ 6) (h0' : 0 < n') :
    Calls Try.prog 70 #[.slice (some ⟨b, off, none⟩) n cap, .slice (some ⟨b', off', none⟩) n' cap'] w (RetOcc p q w) := by
  obtain ⟨po, hpo, hRp⟩ := rowAt_of hS h0
  obtain ⟨qo, hqo, hRq⟩ := rowAt_of hT h0'
  have hl := hS.len
  have hl' := hT.len
  subst hl hl'
  have hbl : b < w.heap.size := (Array.getElem?_eq_some_iff.1 hpo).1
  have hbl' : b' < w.heap.size := (Array.getElem?_eq_some_iff.1 hqo).1
  have hmf : ∀ (fn : Fn) (first cap : Array Value) (w : World), (Instr.makeFunc fn first cap).run Try.prog w = .ok (.func fn first cap) w := fun _ _ _ _ => rfl
  have n3 := Boxed.new (((w.alloc (.cells #[.slice (some ⟨b, off, none⟩) p.length cap] 22)).alloc (.cells #[.slice (some ⟨b', off', none⟩) q.length cap'] 22)).alloc (.cells #[.slice none 0 0] 22)) 77 .nilFunc
  have e0 := (((Boxed.new w 22 (.slice (some ⟨b, off, none⟩) p.length cap)).alloc (.cells #[.slice (some ⟨b', off', none⟩) q.length cap'] 22)).alloc (.cells #[.slice none 0 0] 22)).alloc (.cells #[.func (.func 98) #[] #[.pointer (some ⟨w.heap.size + 1 + 1, 0, none⟩), .pointer (some ⟨w.heap.size + 1, 0, none⟩), .pointer (some ⟨w.heap.size, 0, none⟩), .pointer (some ⟨w.heap.size + 1 + 1 + 1, 0, none⟩)]] 77)
  have e1 := ((Boxed.new (w.alloc (.cells #[.slice (some ⟨b, off, none⟩) p.length cap] 22)) 22 (.slice (some ⟨b', off', none⟩) q.length cap')).alloc (.cells #[.slice none 0 0] 22)).alloc (.cells #[.func (.func 98) #[] #[.pointer (some ⟨w.heap.size + 1 + 1, 0, none⟩), .pointer (some ⟨w.heap.size + 1, 0, none⟩), .pointer (some ⟨w.heap.size, 0, none⟩), .pointer (some ⟨w.heap.size + 1 + 1 + 1, 0, none⟩)]] 77)
  have e2 := (Boxed.new ((w.alloc (.cells #[.slice (some ⟨b, off, none⟩) p.length cap] 22)).alloc (.cells #[.slice (some ⟨b', off', none⟩) q.length cap'] 22)) 22 (.slice none 0 0)).alloc (.cells #[.func (.func 98) #[] #[.pointer (some ⟨w.heap.size + 1 + 1, 0, none⟩), .pointer (some ⟨w.heap.size + 1, 0, none⟩), .pointer (some ⟨w.heap.size, 0, none⟩), .pointer (some ⟨w.heap.size + 1 + 1 + 1, 0, none⟩)]] 77)
  have e3 := Boxed.new (((w.alloc (.cells #[.slice (some ⟨b, off, none⟩) p.length cap] 22)).alloc (.cells #[.slice (some ⟨b', off', none⟩) q.length cap'] 22)).alloc (.cells #[.slice none 0 0] 22)) 77 (.func (.func 98) #[] #[.pointer (some ⟨w.heap.size + 1 + 1, 0, none⟩), .pointer (some ⟨w.heap.size + 1, 0, none⟩), .pointer (some ⟨w.heap.size, 0, none⟩), .pointer (some ⟨w.heap.size + 1 + 1 + 1, 0, none⟩)])
  have hbel : Below w.heap.size w ((((w.alloc (.cells #[.slice (some ⟨b, off, none⟩) p.length cap] 22)).alloc (.cells #[.slice (some ⟨b', off', none⟩) q.length cap'] 22)).alloc (.cells #[.slice none 0 0] 22)).alloc (.cells #[.func (.func 98) #[] #[.pointer (some ⟨w.heap.size + 1 + 1, 0, none⟩), .pointer (some ⟨w.heap.size + 1, 0, none⟩), .pointer (some ⟨w.heap.size, 0, none⟩), .pointer (some ⟨w.heap.size + 1 + 1 + 1, 0, none⟩)]] 77)) :=
    ((((Below.refl _ w).alloc (Nat.le_refl _) _).alloc (by simp) _).alloc (by simp; omega) _).alloc (by simp; omega) _
  have hsz : ((((w.alloc (.cells #[.slice (some ⟨b, off, none⟩) p.length cap] 22)).alloc (.cells #[.slice (some ⟨b', off', none⟩) q.length cap'] 22)).alloc (.cells #[.slice none 0 0] 22)).alloc (.cells #[.func (.func 98) #[] #[.pointer (some ⟨w.heap.size + 1 + 1, 0, none⟩), .pointer (some ⟨w.heap.size + 1, 0, none⟩), .pointer (some ⟨w.heap.size, 0, none⟩), .pointer (some ⟨w.heap.size + 1 + 1 + 1, 0, none⟩)]] 77)).heap.size = w.heap.size + 4 := by simp
  simp only [World.size_alloc] at e0 e1 e2 e3 n3
  have c3 := n3.cell
  have f3 := n3.frozen
  have k3 := e3.cell
  have hcall := callsIn_wide.1 (ext_in (w.heap.size + 4) (w.heap.size + 1 + 1) (w.heap.size + 1) w.heap.size (w.heap.size + 1 + 1 + 1) b' off' cap' b off cap p q po qo hRp hRq hn' hn (by omega) (by omega) q.length [] 0 (.slice none 0 0) ((((w.alloc (.cells #[.slice (some ⟨b, off, none⟩) p.length cap] 22)).alloc (.cells #[.slice (some ⟨b', off', none⟩) q.length cap'] 22)).alloc (.cells #[.slice none 0 0] 22)).alloc (.cells #[.func (.func 98) #[] #[.pointer (some ⟨w.heap.size + 1 + 1, 0, none⟩), .pointer (some ⟨w.heap.size + 1, 0, none⟩), .pointer (some ⟨w.heap.size, 0, none⟩), .pointer (some ⟨w.heap.size + 1 + 1 + 1, 0, none⟩)]] 77)) (by simp) (fun k hk => absurd hk (by simp)) (by omega) (by omega)
    ⟨e1, e0, e3, (hbel.block _ hbl).trans hpo, (hbel.block _ hbl').trans hqo⟩ ⟨e2, World.ownsRow_nil _ _ _ _⟩)
  have Hcall := Lib.hid hcall
  have Hbel := Lib.hid hbel
  have Hsz := Lib.hid hsz
  clear hcall hbel hsz n3 e0 e1 e2 e3
  go_enter Try.func70, Try.ntmps70
  go_wp2_with (go_at_call 98; refine Hid.out ?_)
  refine Lib.hid ?_
  refine Hcall.out.mono ?_
  clear Hcall
  rintro e w2 ⟨rfl, v2, ⟨bV, hown⟩, -, hG⟩
  have hb2 : Below w.heap.size w w2 := Hbel.out.trans (hG.below (B := w.heap.size) (by omega) (fun k hk => by cases hk) (by rw [Hsz.out]; omega))
  have HG := Lib.hid hG
  clear hG
  cases ho : ext p q (q.length + 1) [] 0 with
  | none =>
    have Ho := Lib.hid (show occ p q = none from ho)
    clear ho hown
    go_wp2
    go_ret2
    exact ⟨.inl ⟨Ho.out, rfl⟩, hb2⟩
  | some r =>
    rw [ho] at hown
    have Ho := Lib.hid (show occ p q = some r from ho)
    have hrl := (occ_like Ho.out).2
    have hown : w2.ownsRow (w.heap.size + 4) 3 1 v2 r.length (nums .i64 r) := hown
    obtain ⟨g, c, rfl⟩ := own_pos hown (by omega)
    have cV : w2.cell? ⟨w.heap.size + 1 + 1, 0, none⟩ = some (.slice (some ⟨g, 0, none⟩) r.length c) := Boxed.cell bV
    have Hown := Lib.hid (own_sl hown (by omega))
    clear ho hown bV hrl
    go_wp2
    go_ret2
    exact ⟨.inr ⟨r, g, c, Ho.out, rfl, Hown.out⟩, hb2⟩

set_option maxRecDepth 100000 in
set_option maxHeartbeats 1000000 in
/-- checkAll of two permutations. -/
theorem checkAll_two (g b off n cap b' off' n' cap' : Nat) (p q : List Nat) (w : World) (hS : Sl .i64 w (some ⟨b, off, none⟩) n p) (hT : Sl .i64 w (some ⟨b', off', none⟩) n' q) (hp : IsPerm p) (hq : IsPerm q) (hn : n ≤ 60) (h0 : 0 < n) (hn' : n' ≤ 60) (h0' : 0 < n')
    (hg : g < w.heap.size) (c0 : w.cell? ⟨g, 0, none⟩ = some (.slice (some ⟨b, off, none⟩) n cap)) (c1 : w.cell? ⟨g, 1, none⟩ = some (.slice (some ⟨b', off', none⟩) n' cap')) :
    Calls Try.prog 69 #[.slice (some ⟨g, 0, none⟩) 2 2] w fun e w' => e = .returned (.int .i64 0) ∧ Below w.heap.size w w' := by
  have H1 := Lib.hid (fun W (hW : Below w.heap.size w W) => check_perm b off n cap p W (hS.below hW) hp hn h0)
  have H2 := Lib.hid (fun W (hW : Below w.heap.size w W) => check_perm b' off' n' cap' q W (hT.below hW) hq hn' h0')
  go_enter Try.func69, Try.ntmps69
  go_wp2_with fail
  go_loopw [8] (fun i wr => ∃ k : Nat, k ≤ 2 ∧ i = .int .i64 k ∧ Below w.heap.size w wr) (fun i _ => 2 - (intOf i).toNat)
  case atStart => exact ⟨0, by omega, rfl, Below.refl _ _⟩
  case round =>
    obtain ⟨k, hk, rfl, hb⟩ := hrel
    have d0 := (hb.cell (p := ⟨g, 0, none⟩) hg).trans c0
    have d1 := (hb.cell (p := ⟨g, 1, none⟩) hg).trans c1
    have k1 := H1.out wr hb
    have k2 := H2.out wr hb
    have K1 := Lib.hid k1
    have K2 := Lib.hid k2
    clear k1 k2 c0 c1
    match k, hk with
    | 0, _ =>
      go_wp2_with (go_at_call 16; refine K1.out.mono ?_; rintro e w1 ⟨rfl, hb1⟩)
      go_roundw
      case rel => exact ⟨1, by omega, rfl, hb.trans (hb1.mono hb.size)⟩
      case measure => simp [intOf]
    | 1, _ =>
      go_wp2_with (go_at_call 16; refine K2.out.mono ?_; rintro e w1 ⟨rfl, hb1⟩)
      go_roundw
      case rel => exact ⟨2, by omega, rfl, hb.trans (hb1.mono hb.size)⟩
      case measure => simp [intOf]
    | 2, _ =>
      go_wp2_with fail
      go_ret
      exact ⟨rfl, hb⟩

/-- What Find returns of two permutations, the second one short. -/
def RetFind (p q : List Nat) (w : World) (e : Ending) (w' : World) : Prop :=
  ((occ p q = none ∧ e = .returned (.tuple #[.slice none 0 0, .bool false, .int .i64 0])) ∨
    (∃ r g c, occ p q = some r ∧ e = .returned (.tuple #[.slice (some ⟨g, 0, none⟩) r.length c, .bool true, .int .i64 0]) ∧ Sl .i64 w' (some ⟨g, 0, none⟩) r.length r)) ∧ Below w.heap.size w w'

set_option maxRecDepth 100000 in
set_option maxHeartbeats 1000000 in
theorem find_any (b off n cap b' off' n' cap' : Nat) (p q : List Nat) (w : World) (hS : Sl .i64 w (some ⟨b, off, none⟩) n p) (hT : Sl .i64 w (some ⟨b', off', none⟩) n' q) (hp : IsPerm p) (hq : IsPerm q) (hn : n ≤ 60) (h0 : 0 < n) (hn' : n' ≤ 6) (h0' : 0 < n') :
    Calls Try.prog 22 #[.slice (some ⟨b, off, none⟩) n cap, .slice (some ⟨b', off', none⟩) n' cap'] w (RetFind p q w) := by
  have hbel := below_new' w (.cells #[.slice (some ⟨b, off, none⟩) n cap, .slice (some ⟨b', off', none⟩) n' cap'] 22)
  have hblk := Blk.new w 22 #[.slice (some ⟨b, off, none⟩) n cap, .slice (some ⟨b', off', none⟩) n' cap']
  have HC := Lib.hid (checkAll_two w.heap.size b off n cap b' off' n' cap' p q _ (hS.below hbel) (hT.below hbel) hp hq hn h0 (by omega) h0' hblk.lt (hblk.cell 0) (hblk.cell 1))
  have Hbel := Lib.hid hbel
  have HO := Lib.hid (fun W (hW : Below w.heap.size w W) => occurrence_any b off n cap b' off' n' cap' p q W (hS.below hW) (hT.below hW) hn h0 hn' h0')
  have hd : decide ((n' : Int) > 6) = false := decide_eq_false (by omega)
  have hd2 : decide ((6 : Int) < n') = false := decide_eq_false (by omega)
  clear hbel hblk
  go_enter Try.func22, Try.ntmps22
  go_wp2_with (go_at_call 69; refine Hid.out ?_)
  refine Lib.hid ?_
  refine HC.out.mono ?_
  rintro e w1 ⟨rfl, hb1⟩
  have hb := Hbel.out.trans (hb1.mono Hbel.out.size)
  have Hb := Lib.hid hb
  have HO1 := Lib.hid (HO.out w1 hb)
  clear hb1 hb HC HO
  go_wp2_with (go_at_call 70; refine Hid.out ?_)
  refine Lib.hid ?_
  refine HO1.out.mono ?_
  rintro e w2 ⟨⟨ho, rfl⟩ | ⟨r, g, c, ho, rfl, hs⟩, hb2⟩
  · have Ho := Lib.hid ho
    clear ho
    go_wp2
    go_ret3
    exact ⟨.inl ⟨Ho.out, rfl⟩, Hb.out.trans (hb2.mono Hb.out.size)⟩
  · have Ho := Lib.hid (show _ ∧ _ from ⟨ho, hs⟩)
    clear ho hs
    go_wp2
    go_ret3
    exact ⟨.inr ⟨r, g, c, Ho.out.1, rfl, Ho.out.2⟩, Hb.out.trans (hb2.mono Hb.out.size)⟩

end Go.Proofs.Ytcklgdcjedikoaa
