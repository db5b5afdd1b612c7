/-
  The walk of the reference's Blocks.
  The walk of the reference's Blocks, of two elements or more.
  The walk of PermBlocks.
  PermBlocks: for every list and every tree the statement's function returns true, and its arguments read as before. No condition.
-/
import Derived.Test.YtgdaidmkcgblbaaParR
import Derived.Test.YtgdaidmkcgblbaaBloN
import Derived.Deep.DeepCutAuto
import Derived.Test.YtgdaidmkcgblbaaAgrL
import Derived.Test.YtgdaidmkcgblbaaOpen
set_option linter.unusedVariables false
namespace Go.Proofs.Ytgdaidmkcgblbaa
open Go.RowKit

theorem rparts_tree (n : Nat) (h2 : 2 ≤ n) (h60 : n ≤ 60) (ih : ∀ m, m < n → BlocksOf m) (S : Nat → Prop) (bk off cap : Nat) (p : List Nat) (A : Option Addr) (c1 capC : Nat) (C : List Nat) (K : Int) (pa : Option Addr) (pl pc : Nat) (L : List Int) (w : World)
    (hS : Sl .i64 w (some ⟨bk, off, none⟩) n p) (hperm : IsPerm p) (hC : Sl .i64 w A c1 C) (hc1 : 1 ≤ c1) (hc61 : c1 ≤ 61) (hr : pairsOf C = (divL p).2) (hcap : n ≤ cap) (hcap9 : cap ≤ 9223372036854775807) (hp : PermS w S L (.slice pa pl pc)) (hSw : ∀ g, S g → g < w.heap.size)
    (hK : K = ((divL p).1 : Nat)) (hL : L = (if (divL p).1 = 3 then patL p (divL p).2 else []).map fun (x : Nat) => (x : Int)) :
    Calls Try.prog 85 #[.slice (some ⟨bk, off, none⟩) n cap, .slice A c1 capC, .agg #[.int .i64 K, .slice pa pl pc, .slice none 0 0]] w (RetParts' S n (toIT n (treeF n p)) w) := by
  obtain ⟨N, rfl⟩ : ∃ N, n = N + 1 := ⟨n - 1, by omega⟩
  obtain ⟨m, rfl⟩ : ∃ m, c1 = m + 1 := ⟨c1 - 1, by omega⟩
  have hl := hS.len
  have hg := gapless_perm hperm (by omega)
  have h := rparts_any N (fun m hm => ih m (by omega)) S bk off cap p A m capC C K pa pl pc L w hS hC (by omega) (by omega) hcap hcap9 hp hSw (perm_le hperm (by omega)) (cuts_ok hg hl (by omega) hC.len hr)
  rw [hr, hK, hL, ← treeF_node hl (by omega)] at h
  rw [hK]
  exact h

/-- A tree is stored into the result's cell. -/
theorem ret_new {T : TypeId} {w w4 : World} {d n pn pc c : Nat} {t : IT} {S' : Nat → Prop} {pa A : Option Addr} {K : Int} {u0 u1 u2 : Value} (hit : ITS w4 S' d t (.slice pa pn pc) (.slice A n c)) (hS' : ∀ g, S' g → w.heap.size < g ∧ g < w4.heap.size) (hb : Below w.heap.size w w4) (hr : Blk w4 w.heap.size T #[u0, u1, u2]) :
    Blk (((w4.setCell ⟨w.heap.size, 0, none⟩ (.int .i64 K)).setCell ⟨w.heap.size, 1, none⟩ (.slice pa pn pc)).setCell ⟨w.heap.size, 2, none⟩ (.slice A n c)) w.heap.size T #[.int .i64 K, .slice pa pn pc, .slice A n c] ∧
    ITIn (((w4.setCell ⟨w.heap.size, 0, none⟩ (.int .i64 K)).setCell ⟨w.heap.size, 1, none⟩ (.slice pa pn pc)).setCell ⟨w.heap.size, 2, none⟩ (.slice A n c)) w.heap.size (((w4.setCell ⟨w.heap.size, 0, none⟩ (.int .i64 K)).setCell ⟨w.heap.size, 1, none⟩ (.slice pa pn pc)).setCell ⟨w.heap.size, 2, none⟩ (.slice A n c)).heap.size d t (.slice pa pn pc) (.slice A n c) ∧
    Below w.heap.size w (((w4.setCell ⟨w.heap.size, 0, none⟩ (.int .i64 K)).setCell ⟨w.heap.size, 1, none⟩ (.slice pa pn pc)).setCell ⟨w.heap.size, 2, none⟩ (.slice A n c)) := by
  have hzf : (((w4.setCell ⟨w.heap.size, 0, none⟩ (.int .i64 K)).setCell ⟨w.heap.size, 1, none⟩ (.slice pa pn pc)).setCell ⟨w.heap.size, 2, none⟩ (.slice A n c)).heap.size = w4.heap.size := by simp [World.setCell]
  refine ⟨?_, ITS.toIn _ _ _ _ (ITS.keep (w := w4) (fun g hg => ⟨⟨Nat.le_of_lt (hS' g hg).1, by rw [hzf]; exact (hS' g hg).2⟩, ?_⟩) _ _ _ _ hit), ?_⟩
  · have := ((hr.store 0 (.int .i64 K)).store 1 (.slice pa pn pc)).store 2 (.slice A n c)
    simpa using this
  · have hne : g ≠ w.heap.size := by have := (hS' g hg).1; omega
    exact (Below.heap_setCell _ _ _ _ hne).trans ((Below.heap_setCell _ _ _ _ hne).trans (Below.heap_setCell _ _ _ _ hne))
  · exact ((hb.setCell (p := ⟨w.heap.size, 0, none⟩) (Nat.le_refl _) (.int .i64 K)).setCell (p := ⟨w.heap.size, 1, none⟩) (Nat.le_refl _) (.slice pa pn pc)).setCell (p := ⟨w.heap.size, 2, none⟩) (Nat.le_refl _) (.slice A n c)

/-- A row of one's own as a tree's permutation. -/
theorem own_permS {w : World} {B g cap : Nat} {S : Nat → Prop} {l : List Nat} (h : w.ownsRow B 3 1 (.slice (some ⟨g, 0, none⟩) l.length cap) l.length (nums .i64 l)) (hl : ∀ x ∈ l, x ≤ 1000) (hn : l.length ≤ 1000) (hS : S g) : PermS w S (l.map fun (x : Nat) => (x : Int)) (.slice (some ⟨g, 0, none⟩) l.length cap) := by
  have hc := own_cap h
  refine ⟨some ⟨g, 0, none⟩, cap, by rw [List.length_map], by rw [List.length_map]; exact ⟨hc.1, hc.2, by omega⟩, fun z hz => ?_, fun _ => ⟨g, 0, rfl, hS, fun i hi => ?_⟩⟩
  · obtain ⟨x, hx, rfl⟩ := List.mem_map.1 hz
    have := hl x hx
    omega
  · rw [List.length_map] at hi
    rw [Nat.zero_add, own_num h i hi]
    simp [List.getD_eq_getElem?_getD, hi]

theorem cutsR_pred (f : Nat → Bool) {a : Nat} (h : 1 ≤ a) : cutsR f a = if f a then cutsR f (a - 1) ++ [a] else cutsR f (a - 1) := by
  obtain ⟨k, rfl⟩ : ∃ k, a = k + 1 := ⟨a - 1, by omega⟩
  rfl

theorem ITS.leaf0 (w : World) (S : Nat → Prop) : ITS w S 1 (.node 0 [] []) (.slice none 0 0) (.slice none 0 0) := ⟨PermS.nil w S, Option.none, 0, rfl, fun h => absurd h (by show ¬ 0 < 0; omega)⟩

set_option maxRecDepth 100000 in
set_option maxHeartbeats 4000000 in
theorem rblocks_one : BlocksOf 1 := by
  intro bk off cap p w hS hp h1 h60 hcap hcap9
  have hl := hS.len
  have hres := Blk.new w 64 #[.int .i64 0, .slice none 0 0, .slice none 0 0]
  have hbel0 := below_new' w (.cells #[.int .i64 0, .slice none 0 0, .slice none 0 0] 64)
  have ht : toIT 1 (treeF 1 p) = .node 0 [] [] := by rw [treeF_succ, if_pos hl]; rfl
  rw [ht]
  obtain ⟨c0, c1, c2, f0, f1, f2⟩ := blk_three hres
  have h4 := ITS.toIn _ _ _ _ (ITS.leaf0 (w.alloc (.cells #[.int .i64 0, .slice none 0 0, .slice none 0 0] 64)) (fun g => w.heap.size ≤ g ∧ g < (w.alloc (.cells #[.int .i64 0, .slice none 0 0, .slice none 0 0] 64)).heap.size))
  clear hS hl hres
  go_enter Try.func51, Try.ntmps51
  go_wp2_with fail
  exact bodyPost_ret (v := .agg #[.int .i64 0, .slice none 0 0, .slice none 0 0]) (by simp [results, Try.results51, go_sem, c0, c1, c2]) rfl ⟨none, 0, 0, none, 0, 0, rfl, h4, hbel0⟩

end Go.Proofs.Ytgdaidmkcgblbaa

namespace Go.Proofs.Ytgdaidmkcgblbaa
open Go.RowKit

set_option maxRecDepth 100000 in
set_option maxHeartbeats 8000000 in
theorem rblocks_node (n : Nat) (h2 : 2 ≤ n) (ih : ∀ m, m < n → BlocksOf m) : BlocksOf n := by
  intro bk off cap p w hS hperm h1 h60 hcap hcap9
  have hl := hS.len
  have hd : p.Nodup := (gapless_perm hperm (by omega)).1
  obtain ⟨i1, hinf1, hy0, hy1, hy2⟩ := info_parts info_int'
  have hbp := perm_le hperm (by omega)
  have hb1000 : ∀ x ∈ p, x ≤ 1000 := fun x hx => by
    obtain ⟨i, hi, rfl⟩ := mem_getD hx
    exact hbp i
  have Hless := Lib.hid (lessL_R (p := p) (by omega))
  have Hgreat := Lib.hid (greatL_R (p := p) (by omega) hperm.2)
  rw [hl] at Hless Hgreat
  obtain ⟨X1, hX1⟩ : ∃ X1, X1 = w.alloc (.cells #[.int .i64 0, .slice none 0 0, .slice none 0 0] 64) := ⟨_, rfl⟩
  have a1 : Below w.heap.size w X1 := by rw [hX1]; exact below_new' w _
  have a2 : Blk X1 w.heap.size 64 #[.int .i64 0, .slice none 0 0, .slice none 0 0] := by rw [hX1]; exact Blk.new w _ _
  have a3 : X1.heap.size = w.heap.size + 1 := by rw [hX1]; exact size_new' w _
  have hlt1 : w.heap.size < X1.heap.size := by omega
  have Hall : Hid (∀ (k a : Nat) (W : World), (k = 1 ∨ k = 2) → a ≤ n → Below X1.heap.size X1 W → Calls Try.prog 84 #[.slice (some ⟨bk, off, none⟩) n cap, .int .i64 a, .int .i64 k] W fun e w' => e = .returned (.bool (allB p a k)) ∧ Below W.heap.size W w') := fun k a W hk ha hW => by
    have hSW := (hS.below a1).below hW
    rcases hk with rfl | rfl
    · exact rall_one bk off n cap p a W hSW ha h60 hbp
    · exact rall_two bk off n cap p a W hSW ha h60 hbp
  have Hgap := Lib.hid (fun (s e : Nat) (W : World) (hW : Below X1.heap.size X1 W) (h3 : s < e) (h4 : e ≤ n) => rgapless_any (some ⟨bk, off + s, none⟩) (e - s) (cap - s) (seg p s e) W (((hS.below a1).below hW).seg s e (by omega) h4) (by omega) (fun x hx => hb1000 x (seg_sub hx)))
  have Hparts := Lib.hid (fun (S : Nat → Prop) (A : Option Addr) (c1 capC : Nat) (C : List Nat) (K : Int) (pa : Option Addr) (pl pc : Nat) (L : List Int) (W : World) (hW : Below X1.heap.size X1 W) (hC : Sl .i64 W A c1 C) (hc1 : 1 ≤ c1) (hc61 : c1 ≤ 61) (hr : pairsOf C = (divL p).2) (hp : PermS W S L (.slice pa pl pc)) (hSw : ∀ g, S g → g < W.heap.size) (hK : K = ((divL p).1 : Nat)) (hL : L = (if (divL p).1 = 3 then patL p (divL p).2 else []).map fun (x : Nat) => (x : Int)) =>
    rparts_tree n h2 h60 ih S bk off cap p A c1 capC C K pa pl pc L W ((hS.below a1).below hW) hperm hC hc1 hc61 hr hcap hcap9 hp hSw hK hL)
  unfold RetParts' at Hparts
  have HS1 := Lib.hid (hS.below a1)
  have Hperm := Lib.hid hperm
  have Hd := Lib.hid hd
  have Hl := Lib.hid hl
  have Hbp := Lib.hid hbp
  have Ha1 := Lib.hid a1
  have Ha2 := Lib.hid a2
  unfold RetNew
  generalize hT : toIT n (treeF n p) = T at *
  clear hT ih hS hperm hd hbp hb1000 a1 a2 a3 hl
  have hn1 : ¬ (n : Int) = 1 := by omega
  go_enter Try.func51, Try.ntmps51
  go_upto_region 1 with fail
  rw [← hX1]
  clear hX1
  go_wp2_with fail
  go_loopw [3] (fun kv wr => ∃ k : Nat, 1 ≤ k ∧ k ≤ 3 ∧ kv = .int .i64 k ∧ Hid ((1 < k → (lessL p).length ≤ 1) ∧ (2 < k → (greatL p).length ≤ 1)) ∧ Below X1.heap.size X1 wr) (fun kv _ => 3 - (intOf kv).toNat)
  case atStart => exact ⟨1, Nat.le_refl _, by omega, rfl, Lib.hid ⟨fun h => absurd h (by omega), fun h => absurd h (by omega)⟩, Below.refl _ _⟩
  case round =>
    obtain ⟨k, hk1, hk3, rfl, Hno, hbel⟩ := hrel
    have Hbel := Lib.hid hbel
    clear hbel
    by_cases hk : k ≤ 2
    · have hki : (k : Int) ≤ 2 := by omega
      obtain ⟨f, hf⟩ : ∃ f : Nat → Bool, f = fun a => allB p a k := ⟨_, rfl⟩
      have Hallk : Hid (∀ (a : Nat) (W : World), a ≤ n → Below X1.heap.size X1 W → Calls Try.prog 84 #[.slice (some ⟨bk, off, none⟩) n cap, .int .i64 a, .int .i64 k] W fun e w' => e = .returned (.bool (f a)) ∧ Below W.heap.size W w') := fun a W ha hW => by
        rw [hf]
        exact Hall.out k a W (by omega) ha hW
      have Hrows : Hid ((k = 1 → lessL p = pairsOf (cutsR f (n - 1) ++ [n])) ∧ (k = 2 → greatL p = pairsOf (cutsR f (n - 1) ++ [n]))) := by
        refine Lib.hid ⟨fun e => ?_, fun e => ?_⟩
        · rw [hf, e]; exact Hless.out
        · rw [hf, e]; exact Hgreat.out
      clear hf
      have hsz := Hbel.out.size
      go_wp2_with (at_builtin; refine wpList_append_own _ rfl _ _ 22 rfl X1.heap.size 3 i1 (.int .i64 0) 1 8 Try.underlying22 hinf1 hy0 hy1 hy2 rfl (by decide) _ 0 [] rfl ⟨rfl, .inl ⟨rfl, rfl⟩⟩ ⟨wr.heap.size, 0, none⟩ 1 1 [.int .i64 0] rfl rfl ?ac1 ?ac2 ?ac3 ?ac4 ?ac5 ?_)
      try (case ac1 => exact cell_one_new _ _ _)
      case ac2 => first | rfl | exact one_cell _ rfl
      case ac3 => unfold maxLen; omega
      case ac4 => omega
      case ac5 => first | omega | (simp; omega)
      intro v0 w1 hown0 hgrow0 _
      have Hown0 := Lib.hid hown0
      have Hbel0 := Lib.hid (Hbel.out.trans (own_below (W := wr) (v := .slice none 0 0) (k := 0) (xs := []) (e := 3) (size := 1) ⟨rfl, .inl ⟨rfl, rfl⟩⟩ hsz hgrow0))
      clear hown0 hgrow0
      go_wp2_with fail
      go_loopw [4, 5] (fun v av wr => ∃ a : Nat, 1 ≤ a ∧ a ≤ n ∧ av = .int .i64 a ∧ wr.ownsRow X1.heap.size 3 1 v (cutsR f (a - 1)).length (nums .i64 (cutsR f (a - 1))) ∧ Below X1.heap.size X1 wr) (fun _ av _ => n - (intOf av).toNat)
      case atStart => exact ⟨1, Nat.le_refl _, by omega, rfl, Hown0.out, Hbel0.out⟩
      case round =>
        obtain ⟨a, ha1, ha2, rfl, hown, hbel2⟩ := hrel
        have Hown := Lib.hid hown
        have Hbel2 := Lib.hid hbel2
        have hsz2 := hbel2.size
        by_cases hlt : a < n
        · have hai : (a : Int) < (n : Int) := by omega
          have hcl := (cutsR_length f (a - 1)).2
          have Hpred := Lib.hid (cutsR_pred f ha1)
          have Hcall := Lib.hid (Hallk.out a _ ha2 hbel2)
          clear hown hbel2
          cases hfa : f a with
          | true =>
            rw [hfa] at Hcall Hpred
            have Hp2 : Hid (cutsR f (a + 1 - 1) = cutsR f (a - 1) ++ [a]) := Hpred.out
            clear hfa Hpred
            generalize cutsR f (a - 1) = C at *
            go_wp2_with (first
              | (go_at_call 84; refine Hcall.out.mono ?_; rintro e w2 ⟨rfl, hb2⟩; have hk2 := own_keep Hown.out hb2; have hb2w := Hbel2.out.trans (hb2.mono hsz2); have hs3 := hb2w.size)
              | (at_builtin; refine wpList_append_own _ rfl _ _ 22 rfl X1.heap.size 3 i1 (.int .i64 0) 1 8 Try.underlying22 hinf1 hy0 hy1 hy2 rfl (by decide) _ _ _ rfl (hk2.alloc _) ⟨w2.heap.size, 0, none⟩ 1 1 [.int .i64 a] rfl rfl ?bc1 ?bc2 ?bc3 ?bc4 ?bc5 ?_))
            try (case bc1 => exact cell_one_new _ _ _)
            case bc2 => first | rfl | exact one_cell _ rfl
            case bc3 => unfold maxLen; omega
            case bc4 => omega
            case bc5 => first | omega | (simp; omega)
            intro v' w3 hown' hgrow _
            have hb' := hb2w.trans (own_below hk2 hs3 hgrow)
            rw [nums_snoc] at hown'
            have Hown3 : Hid (w3.ownsRow X1.heap.size 3 1 v' (cutsR f (a + 1 - 1)).length (nums .i64 (cutsR f (a + 1 - 1)))) := by
              show World.ownsRow _ _ _ _ _ _ _
              rw [Hp2.out, List.length_append, List.length_singleton]
              exact hown'
            have Hb3 := Lib.hid hb'
            clear hown' hgrow hb' hk2 hb2w hb2
            go_wp2_with fail
            go_roundw
            case rel => exact ⟨a + 1, by omega, by omega, by go_num, Hown3.out, Hb3.out⟩
            case measure => simp [intOf]; omega
          | false =>
            rw [hfa] at Hcall Hpred
            have Hp2 : Hid (cutsR f (a + 1 - 1) = cutsR f (a - 1)) := Hpred.out
            clear hfa Hpred
            generalize cutsR f (a - 1) = C at *
            go_wp2_with (go_at_call 84; refine Hcall.out.mono ?_; rintro e w2 ⟨rfl, hb2⟩; have Hk2 := Lib.hid (own_keep Hown.out hb2); have Hb2w := Lib.hid (Hbel2.out.trans (hb2.mono hsz2)); clear hb2)
            go_roundw
            case rel => exact ⟨a + 1, by omega, by omega, by go_num, by rw [Hp2.out]; exact Hk2.out, Hb2w.out⟩
            case measure => simp [intOf]; omega
        · obtain hae : a = n := by omega
          have hai : ¬ (a : Int) < (n : Int) := by omega
          rw [hae] at hown
          have hcl := (cutsR_length f (n - 1)).2
          have hc0 := (cutsR_length f (n - 1)).1
          have hplen : (pairsOf (cutsR f (n - 1) ++ [n])).length = (cutsR f (n - 1)).length := by
            rw [pairsOf_length, List.length_append, List.length_singleton]; omega
          have Hdiv : Hid (1 < (cutsR f (n - 1)).length → (divL p).1 = k ∧ (divL p).2 = pairsOf (cutsR f (n - 1) ++ [n])) := fun hL => by
            rcases (show k = 1 ∨ k = 2 by omega) with e | e
            · have hr := Hrows.out.1 e
              have : divL p = (1, lessL p) := by unfold divL; rw [if_pos (by rw [hr, hplen]; exact hL)]
              rw [this]; exact ⟨e.symm, hr⟩
            · have hr := Hrows.out.2 e
              have : divL p = (2, greatL p) := by unfold divL; rw [if_neg (by have := Hno.out.1 (by omega); omega), if_pos (by rw [hr, hplen]; exact hL)]
              rw [this]; exact ⟨e.symm, hr⟩
          have Hno2 : Hid (¬ 1 < (cutsR f (n - 1)).length → (1 < k + 1 → (lessL p).length ≤ 1) ∧ (2 < k + 1 → (greatL p).length ≤ 1)) := fun hL => by
            rcases (show k = 1 ∨ k = 2 by omega) with e | e
            · exact ⟨(fun _ => by rw [Hrows.out.1 e, hplen]; omega), fun h => absurd h (by omega)⟩
            · exact ⟨fun _ => Hno.out.1 (by omega), fun _ => by rw [Hrows.out.2 e, hplen]; omega⟩
          clear hae hplen Hown
          generalize cutsR f (n - 1) = C at *
          obtain ⟨A0, c0, rfl⟩ := own_slice hown
          have Hown := Lib.hid hown
          have Hbr := Hbel2
          clear hown hbel2 Hbel2
          by_cases hL : 1 < C.length
          · have hLi : (1 : Int) < (C.length : Int) := by omega
            obtain ⟨hd1, hd2⟩ := Hdiv.out hL
            have Hd1 := Lib.hid hd1
            have Hd2 := Lib.hid hd2
            clear hd1 hd2 Hdiv Hno2
            have Hpar := Lib.hid (fun (A : Option Addr) (capC : Nat) (W : World) (hW : Below X1.heap.size X1 W) (hC : Sl .i64 W A (C.length + 1) (C ++ [n])) =>
              Hparts.out (fun _ => False) A (C.length + 1) capC (C ++ [n]) (k : Int) none 0 0 [] W hW hC (by omega) (by omega) Hd2.out.symm (PermS.nil _ _) (fun g h => h.elim) (by rw [Hd1.out]) (by rw [Hd1.out, if_neg (by omega)]; rfl))
            clear Hparts
            have hszr := Hbr.out.size
            go_wp2_with (at_builtin; refine wpList_append_own _ rfl _ _ 22 rfl X1.heap.size 3 i1 (.int .i64 0) 1 8 Try.underlying22 hinf1 hy0 hy1 hy2 rfl (by decide) _ _ _ rfl (Hown.out.alloc _) ⟨wr.heap.size, 0, none⟩ 1 1 [.int .i64 n] rfl rfl ?cc1 ?cc2 ?cc3 ?cc4 ?cc5 ?_)
            try (case cc1 => exact cell_one_new _ _ _)
            case cc2 => first | rfl | exact one_cell _ rfl
            case cc3 => unfold maxLen; omega
            case cc4 => omega
            case cc5 => first | omega | (simp; omega)
            intro v' w3 hown' hgrow _
            have Hb3 := Lib.hid (Hbr.out.trans (own_below Hown.out hszr hgrow))
            rw [nums_snoc] at hown'
            obtain ⟨g3, c3, rfl⟩ := own_pos hown' (by omega)
            have Hpar3 := Lib.hid (Hpar.out (some ⟨g3, 0, none⟩) c3 w3 Hb3.out (own_sl hown' (by omega)))
            clear hown' hgrow Hpar Hown
            go_wp2_with (go_at_call 85; refine Hpar3.out.mono ?_; rintro e w5 ⟨pa', pn', pc', A', n', c', rfl, hits, hb5⟩; have Hb5 := Lib.hid (Hb3.out.trans (hb5.mono Hb3.out.size)); have Hr5 := Lib.hid (Ha2.out.below Hb5.out hlt1); have Hits := Lib.hid hits; have Hs5 := Lib.hid hb5.size; clear hits hb5; obtain ⟨x0, x1, x2, y0, y1, y2⟩ := blk_three Hr5.out)
            obtain ⟨h3, h4, h5⟩ := ret_new (w := w) (K := T.kind) Hits.out (fun g hg => by
              have q1 := Hb3.out.size
              rcases hg with hg | ⟨q2, q3⟩
              · exact hg.elim
              · exact ⟨by omega, q3⟩) (Ha1.out.trans (Hb5.out.mono Ha1.out.size)) Hr5.out
            obtain ⟨z0, z1, z2, -, -, -⟩ := blk_three h3
            exact bodyPost_ret (v := .agg #[.int .i64 T.kind, .slice pa' pn' pc', .slice A' n' c']) (by simp [results, Try.results51, go_sem, z0, z1, z2]) rfl ⟨pa', pn', pc', A', n', c', rfl, h4, h5⟩
          · have hLi : ¬ (1 : Int) < (C.length : Int) := by omega
            have Hno3 := Lib.hid (Hno2.out hL)
            clear Hdiv Hno2 Hparts
            go_wp2_with fail
            go_roundw
            case rel => exact ⟨k + 1, by omega, by omega, by go_num, Hno3, Hbr.out⟩
            case measure => simp [intOf]; omega
    · have hki : ¬ (k : Int) ≤ 2 := by omega
      have Hdiv := Lib.hid (divL_three (p := p) (by have := Hno.out.1 (by omega); omega) (by have := Hno.out.2 (by omega); omega))
      have Hend := Lib.hid (fun (t : Nat) (h : t < n) => endR_long (p := p) (s := t) Hd.out (by rw [Hl.out]; exact h) (by rw [Hl.out]; exact h2))
      have Htop := Lib.hid (fun (t : Nat) (h : t < n) => longE_top (p := p) (s := t) (by rw [Hl.out]; exact h) (by rw [Hl.out]; exact h2))
      have Hgo := Lib.hid (fun (t f : Nat) (h : t < n) (hf : n - t ≤ f) => longFrom_go (p := p) (f := f) (s := t) (by rw [Hl.out]; exact h) (by rw [Hl.out]; exact hf))
      have Hlen0 := Lib.hid (show longL p = longFrom p n 0 from by unfold longL; rw [Hl.out])
      have Hfin := Lib.hid (fun f => show longFrom p f n = [] from by rw [← Hl.out]; exact longFrom_end)
      have Hwin := Lib.hid (fun (a b : Nat) => show winB p a b = (decide (b - a < n) && gapR (seg p a b)) from by unfold winB; rw [Hl.out])
      rw [Hl.out] at Hend
      have hlit := own_lit wr 3 [.int .i64 0] (by unfold maxLen; decide)
      have Hlit := Lib.hid (own_base hlit Hbel.out.size)
      have Hblit := Lib.hid (Hbel.out.alloc Hbel.out.size (.cells #[.int .i64 0] 3))
      clear hlit Hall Hless Hgreat Hno
      go_wp2_with fail
      clear hki
      go_loopw [6, 7] (fun v tv wr => ∃ (t : Nat) (C l : List Nat) (f : Nat), t ≤ n ∧ tv = .int .i64 t ∧ wr.ownsRow X1.heap.size 3 1 v C.length (nums .i64 C) ∧ Hid (C = l ++ [t] ∧ pairsOf C ++ longFrom p f t = longL p) ∧ n - t ≤ f ∧ C.length ≤ t + 1 ∧ Below X1.heap.size X1 wr) (fun _ tv _ => n - (intOf tv).toNat)
      case atStart => exact ⟨0, [0], [], n, Nat.zero_le _, rfl, Hlit.out, Lib.hid ⟨rfl, Hlen0.out.symm⟩, by omega, Nat.le_refl _, Hblit.out⟩
      case round =>
        obtain ⟨t, C, l, f, ht, rfl, hown, HC, hf, hCl, hbel2⟩ := hrel
        have Hown := Lib.hid hown
        have Hbel2 := Lib.hid hbel2
        clear hown hbel2
        by_cases hlt : t < n
        · have hti : (t : Int) < (n : Int) := by omega
          go_wp2_with fail
          obtain ⟨wo, rfl⟩ : ∃ wo : World, wo = wr := ⟨_, rfl⟩
          go_loopw [8, 9] (fun ev bv wr => ∃ d B : Nat, d ≤ n - t ∧ B = t + 1 + d ∧ bv = .int .i64 B ∧ ev = .int .i64 (endR p t d : Nat) ∧ Below wo.heap.size wo wr) (fun _ bv _ => n + 1 - (intOf bv).toNat)
          case atStart => exact ⟨0, t + 1, Nat.zero_le _, rfl, (by first | rfl | go_num | (congr 1; omega)), (by show _ = Value.int _ ((t + 1 : Nat) : Int); first | rfl | go_num | (congr 1; omega)), Below.refl _ _⟩
          case round =>
            obtain ⟨d, B, hdn, hB, rfl, rfl, hb4⟩ := hrel
            have Hb4 := Lib.hid hb4
            have Hbx := Lib.hid (Hbel2.out.trans (hb4.mono Hbel2.out.size))
            have HB := Lib.hid hB
            have htB : t < B := by omega
            clear hb4 hB
            by_cases hBn : B ≤ n
            · have hbi : (B : Int) ≤ (n : Int) := by omega
              have hw1 : IntKind.i64.wrap ((B : Int) - (t : Int)) = ((B - t : Nat) : Int) := (IntWalk.i64_in _ (by omega)).trans (by omega)
              have Hnx : Hid (endR p t (d + 1) = if winB p t B then B else endR p t d) := by show _ = _; rw [HB.out]; rfl
              have Hwb := Lib.hid (Hwin.out t B)
              by_cases hwin : B - t < n
              · have hwi : ((B - t : Nat) : Int) < (n : Int) := by omega
                have hw2 : ((B : Int) - (t : Int)).toNat = B - t := by omega
                have hac : t ≤ cap := by omega
                have hbc : (B : Int) ≤ (cap : Int) := by omega
                have hab : (t : Int) ≤ (B : Int) := by omega
                have hcall := Hgap.out t B wr Hbx.out htB hBn
                obtain ⟨q, hq⟩ : ∃ q, gapR (seg p t B) = q := ⟨_, rfl⟩
                rw [hq] at hcall Hwb
                rw [decide_eq_true hwin, Bool.true_and] at Hwb
                have Hcall := Lib.hid hcall
                clear hcall hq
                cases q with
                | true =>
                  have e : Hid (endR p t (d + 1) = B) := by show _ = _; rw [Hnx.out, if_pos Hwb.out]
                  generalize endR p t d = E at *
                  go_wp2_with (go_at_call 86; refine Hcall.out.mono ?_; rintro ee w2 ⟨rfl, hb2⟩)
                  go_roundw
                  case rel => exact ⟨d + 1, B + 1, by have := HB.out; omega, by have := HB.out; omega, by go_num, by rw [e.out], Hb4.out.trans (hb2.mono Hb4.out.size)⟩
                  case measure => simp [intOf]; omega
                | false =>
                  have e : Hid (endR p t (d + 1) = endR p t d) := by show _ = _; rw [Hnx.out, if_neg (by rw [Hwb.out]; simp)]
                  generalize endR p t d = E at *
                  go_wp2_with (go_at_call 86; refine Hcall.out.mono ?_; rintro ee w2 ⟨rfl, hb2⟩)
                  go_roundw
                  case rel => exact ⟨d + 1, B + 1, by have := HB.out; omega, by have := HB.out; omega, by go_num, by rw [e.out], Hb4.out.trans (hb2.mono Hb4.out.size)⟩
                  case measure => simp [intOf]; omega
              · have hwi : ¬ ((B - t : Nat) : Int) < (n : Int) := by omega
                have e : Hid (endR p t (d + 1) = endR p t d) := by show _ = _; rw [Hnx.out, if_neg (by rw [Hwb.out, decide_eq_false hwin]; simp)]
                generalize endR p t d = E at *
                go_wp2_with fail
                go_roundw
                case rel => exact ⟨d + 1, B + 1, by have := HB.out; omega, by have := HB.out; omega, by go_num, by rw [e.out], Hb4.out⟩
                case measure => simp [intOf]; omega
            · have hbi : ¬ (B : Int) ≤ (n : Int) := by omega
              have hE : endR p t d = longE p t := by rw [show d = n - t by have := HB.out; omega]; exact Hend.out t hlt
              obtain ⟨tp1, tp2⟩ := Htop.out t hlt
              rw [Hl.out] at tp2
              have hgo := Hgo.out t f hlt hf
              rw [← hE] at tp1 tp2 hgo
              have HC2 : Hid (C ++ [endR p t d] = C ++ [endR p t d] ∧ pairsOf (C ++ [endR p t d]) ++ longFrom p (f - 1) (endR p t d) = longL p) := by
                obtain ⟨q1, q2⟩ := HC.out
                refine Lib.hid ⟨rfl, ?_⟩
                rw [← q2, hgo, q1, List.append_assoc]
                show pairsOf (l ++ [t, endR p t d]) ++ _ = _
                rw [pairsOf_snoc, List.append_assoc]
                rfl
              have hk2 := own_keep Hown.out Hb4.out
              have hszr := Hbx.out.size
              clear hE hgo
              generalize endR p t d = E at *
              go_wp2_with (at_builtin; refine wpList_append_own _ rfl _ _ 22 rfl X1.heap.size 3 i1 (.int .i64 0) 1 8 Try.underlying22 hinf1 hy0 hy1 hy2 rfl (by decide) _ _ _ rfl (hk2.alloc _) ⟨wr.heap.size, 0, none⟩ 1 1 [.int .i64 E] rfl rfl ?dc1 ?dc2 ?dc3 ?dc4 ?dc5 ?_)
              try (case dc1 => exact cell_one_new _ _ _)
              case dc2 => first | rfl | exact one_cell _ rfl
              case dc3 => unfold maxLen; omega
              case dc4 => omega
              case dc5 => first | omega | (simp; omega)
              intro v' w3 hown' hgrow _
              have Hb3 := Lib.hid (Hbx.out.trans (own_below hk2 hszr hgrow))
              rw [nums_snoc] at hown'
              have Hown3 : Hid (w3.ownsRow X1.heap.size 3 1 v' (C ++ [E]).length (nums .i64 (C ++ [E]))) := by
                show World.ownsRow _ _ _ _ _ _ _
                rw [List.length_append, List.length_singleton]
                exact hown'
              have hCl2 : (C ++ [E]).length ≤ E + 1 := by rw [List.length_append, List.length_singleton]; omega
              clear hown' hgrow hk2
              have HC3 := Lib.hid HC2.out.2
              clear HC2
              generalize hCC : C ++ [E] = C' at *
              have HCe := Lib.hid hCC.symm
              clear hCC
              go_wp2_with fail
              go_roundw
              case rel => exact ⟨E, C', C, f - 1, tp2, rfl, Hown3.out, Lib.hid ⟨HCe.out, HC3.out⟩, by omega, hCl2, Hb3.out⟩
              case measure => simp [intOf]; omega
        · obtain hte : t = n := by omega
          have hti : ¬ (t : Int) < (n : Int) := by omega
          have hrows : pairsOf C = longL p := by
            have := HC.out.2
            rwa [hte, Hfin.out, List.append_nil] at this
          have hC2 : 2 ≤ C.length := by
            have h5 : (longL p).length = C.length - 1 := by rw [← hrows, pairsOf_length]
            have h6 := Hgo.out 0 n (by omega) (by omega)
            rw [Hlen0.out, h6, List.length_cons] at h5
            omega
          have hC61 : C.length ≤ 61 := by omega
          obtain ⟨gC, cC, rfl⟩ := own_pos Hown.out (by omega)
          obtain ⟨FR, hFR⟩ : ∃ FR : List Nat, FR = (longL p).map fun x => p.getD x.1 0 := ⟨_, rfl⟩
          have hFl : FR.length = C.length - 1 := by rw [hFR, List.length_map, ← hrows, pairsOf_length]
          have hpat : patR FR = patL p (longL p) := by rw [hFR]; exact patR_first p _
          have Hstep : Hid (∀ i, i + 1 < C.length → FR.take (i + 1) = FR.take i ++ [p.getD (C.getD i 0) 0] ∧ C.getD i 0 < n) := fun i hi => by
            have hi' : i < (longL p).length := by rw [← hrows, pairsOf_length]; omega
            have e1 : (longL p)[i] = (C.getD i 0, C.getD (i + 1) 0) := by
              have := pairsOf_get C i hi
              rwa [hrows, List.getD_eq_getElem?_getD, List.getElem?_eq_getElem hi'] at this
            have hmem : (C.getD i 0, C.getD (i + 1) 0) ∈ (divL p).2 := by rw [Hdiv.out, ← e1]; exact List.getElem_mem hi'
            have h3 := (divL_parts p (by rw [Hl.out]; exact h2)).1 _ hmem
            refine ⟨?_, by have := h3.1; have := h3.2.1; rw [Hl.out] at this; dsimp only at *; omega⟩
            rw [List.take_succ_eq_append_getElem (by omega)]
            congr 2
            simp only [hFR, List.getElem_map, e1]
          have hF1000 : ∀ x ∈ FR, x ≤ 1000 := fun x hx => by
            rw [hFR] at hx
            obtain ⟨y, -, rfl⟩ := List.mem_map.1 hx
            exact Hbp.out _
          have Hpat := Lib.hid hpat
          have HFl := Lib.hid hFl
          have HF1 := Lib.hid hF1000
          have Hrows := Lib.hid hrows
          clear hFR hFl hpat hF1000 hrows HC hte hf hCl Hend Htop Hgo Hlen0 Hfin Hwin Hgap
          go_wp2_with fail
          obtain ⟨wX, rfl⟩ : ∃ wX : World, wX = wr := ⟨_, rfl⟩
          go_loopw [10, 11] (fun v iv wr => ∃ i : Nat, i + 1 ≤ C.length ∧ iv = .int .i64 i ∧ wr.ownsRow wX.heap.size 3 1 v i (nums .i64 (FR.take i)) ∧ Below wX.heap.size wX wr) (fun _ iv _ => C.length - (intOf iv).toNat)
          case atStart => exact ⟨0, by omega, rfl, ⟨rfl, .inl ⟨rfl, rfl⟩⟩, Below.refl _ _⟩
          case round =>
            obtain ⟨i, hi, rfl, hown5, hb5⟩ := hrel
            have Hown5 := Lib.hid hown5
            have Hb5 := Lib.hid hb5
            have HC5 := Lib.hid (own_keep Hown.out hb5)
            have hsz5 := hb5.size
            clear hown5
            by_cases hil : i + 1 < C.length
            · have hii : (i : Int) + 1 < (C.length : Int) := by omega
              obtain ⟨hs1, hs2⟩ := Hstep.out i hil
              have c1 := own_num HC5.out i (by omega)
              have hbX := Hbel2.out.trans (hb5.mono Hbel2.out.size)
              obtain ⟨_, _, e', _, hc⟩ := (HS1.out.below hbX).at (by omega)
              injection e' with e'
              injection e' with e1 e2
              subst e1 e2
              have c2 := hc (C.getD i 0) hs2
              have Hadd : Hid (nums .i64 (FR.take i) ++ [.int .i64 ((p.getD (C.getD i 0) 0 : Nat) : Int)] = nums .i64 (FR.take (i + 1))) := by
                show _ = _
                rw [nums_snoc, hs1]
              have hx9 := Hbp.out (C.getD i 0)
              clear hc hs1 hb5 hbX
              generalize p.getD (C.getD i 0) 0 = x at *
              generalize C.getD i 0 = y at *
              have hyi : (y : Int) < (n : Int) := by omega
              go_wp2_with (at_builtin; refine wpList_append_own _ rfl _ _ 22 rfl wX.heap.size 3 i1 (.int .i64 0) 1 8 Try.underlying22 hinf1 hy0 hy1 hy2 rfl (by decide) _ _ _ rfl (Hown5.out.alloc _) ⟨wr.heap.size, 0, none⟩ 1 1 [.int .i64 x] rfl rfl ?ec1 ?ec2 ?ec3 ?ec4 ?ec5 ?_)
              try (case ec1 => exact cell_one_new _ _ _)
              case ec2 => first | rfl | exact one_cell _ rfl
              case ec3 => unfold maxLen; omega
              case ec4 => omega
              case ec5 => first | omega | (simp; omega)
              intro v' w3 hown' hgrow _
              have Hb3 := Lib.hid (Hb5.out.trans (own_below Hown5.out hsz5 hgrow))
              rw [Hadd.out] at hown'
              have Hown3 := Lib.hid hown'
              clear hown' hgrow
              go_wp2_with fail
              go_roundw
              case rel => exact ⟨i + 1, by omega, by go_num, Hown3.out, Hb3.out⟩
              case measure => simp [intOf]; omega
            · have hii : ¬ (i : Int) + 1 < (C.length : Int) := by omega
              obtain ⟨g2, c2, rfl⟩ := own_pos Hown5.out (by omega)
              have hFi : FR.take i = FR := List.take_of_length_le (by rw [HFl.out]; omega)
              have hF := own_sl Hown5.out (by omega)
              rw [hFi] at hF
              have HpF := Lib.hid (rpattern_any (some ⟨g2, 0, none⟩) i c2 FR wr hF (by omega) (fun j => by
                by_cases hj : j < FR.length
                · exact HF1.out _ (getD_mem FR j hj)
                · rw [List.getD_eq_getElem?_getD, List.getElem?_eq_none (by omega)]; exact Nat.zero_le _))
              unfold RetRowV at HpF
              have hPl : (patR FR).length = i := by
                have : (patR FR).length = FR.length := List.length_map _
                rw [this, HFl.out]; omega
              have hP1000 : ∀ x ∈ patR FR, x ≤ 1000 := fun x hx => by
                obtain ⟨y, -, rfl⟩ := List.mem_map.1 hx
                exact Nat.le_trans (lessN_le _ _) (by rw [HFl.out]; omega)
              rw [Hpat.out] at HpF hPl hP1000
              have HPl := Lib.hid hPl
              have HP1 := Lib.hid hP1000
              have HbX := Lib.hid (Hbel2.out.trans (hb5.mono Hbel2.out.size))
              have hi1 : 1 ≤ i := by omega
              clear hFi hF hPl hP1000 hb5
              have HpL : Hid (∀ (w5 : World) (gP cP : Nat), Below wr.heap.size wr w5 → w5.ownsRow wr.heap.size 3 1 (.slice (some ⟨gP, 0, none⟩) (patL p (longL p)).length cP) (patL p (longL p)).length (nums .i64 (patL p (longL p))) → _) := fun w5 gP cP hb6 hownP =>
                Hparts.out (fun g => X1.heap.size ≤ g ∧ g < w5.heap.size) (some ⟨gC, 0, none⟩) C.length cC C 3 (some ⟨gP, 0, none⟩) (patL p (longL p)).length cP ((patL p (longL p)).map fun (x : Nat) => (x : Int)) w5 (HbX.out.trans (hb6.mono HbX.out.size))
                  ((own_sl HC5.out (by omega)).below hb6) (by omega) hC61 (by rw [Hrows.out, Hdiv.out])
                  (own_permS hownP HP1.out (by rw [HPl.out]; omega) ⟨by have := own_lt hownP; have := HbX.out.size; omega, (own_lt hownP).1⟩) (fun g h => h.2) (by rw [Hdiv.out]; rfl) (by rw [Hdiv.out, if_pos rfl])
              clear Hparts
              go_wp2_with (first
                | (go_at_call 87; refine HpF.out.mono ?_; rintro e w5 ⟨v5, rfl, hown6, hb6⟩; obtain ⟨gP, cP, rfl⟩ := own_pos hown6 (Nat.lt_of_lt_of_eq hi1 HPl.out.symm); have Hp6 := Lib.hid (HpL.out w5 gP cP hb6 hown6); have Hb6 := Lib.hid (HbX.out.trans (hb6.mono HbX.out.size)); clear hown6 hb6)
                | (go_at_call 85; refine Hp6.out.mono ?_; rintro e w7 ⟨pa', pn', pc', A', n', c', rfl, hits, hb7⟩; have Hb7 := Lib.hid (Hb6.out.trans (hb7.mono Hb6.out.size)); have Hr7 := Lib.hid (Ha2.out.below Hb7.out hlt1); have Hits := Lib.hid hits; have Hs7 := Lib.hid hb7.size; clear hits hb7; obtain ⟨x0, x1, x2, y0, y1, y2⟩ := blk_three Hr7.out))
              obtain ⟨h3, h4, h5⟩ := ret_new (w := w) (K := T.kind) Hits.out (fun g hg => by
                have q1 := Hb6.out.size
                have q4 := Hs7.out
                rcases hg with ⟨q2, q3⟩ | ⟨q2, q3⟩
                · exact ⟨by omega, by omega⟩
                · exact ⟨by omega, q3⟩) (Ha1.out.trans (Hb7.out.mono Ha1.out.size)) Hr7.out
              obtain ⟨z0, z1, z2, -, -, -⟩ := blk_three h3
              exact bodyPost_ret (v := .agg #[.int .i64 T.kind, .slice pa' pn' pc', .slice A' n' c']) (by simp [results, Try.results51, go_sem, z0, z1, z2]) rfl ⟨pa', pn', pc', A', n', c', rfl, h4, h5⟩

theorem rblocks_all : ∀ m, BlocksOf m := fun m => by
  induction m using Nat.strongRecOn with
  | ind m ih =>
    intro bk off cap p w hS hp h1 h60 hcap hcap9
    by_cases h2 : 2 ≤ m
    · exact rblocks_node m h2 ih bk off cap p w hS hp h1 h60 hcap hcap9
    · obtain rfl : m = 1 := by omega
      exact rblocks_one bk off cap p w hS hp h1 h60 hcap hcap9

end Go.Proofs.Ytgdaidmkcgblbaa

set_option linter.unusedVariables false
namespace Go.Proofs.Ytgdaidmkcgblbaa
open Go.RowKit

theorem ints_below {w w' : World} {A : Option Addr} {n : Nat} (h : Ints w A n) (hb : Below w.heap.size w w') : Ints w' A n :=
  ⟨h.1, fun h0 => by
    obtain ⟨b, off, e, hlt, hc⟩ := h.2 h0
    exact ⟨b, off, e, Nat.lt_of_lt_of_le hlt hb.size, fun i hi => by
      obtain ⟨z, hz1, hz2, hz⟩ := hc i hi
      exact ⟨z, hz1, hz2, (hb.cell (p := ⟨b, off + i, none⟩) hlt).trans hz⟩⟩⟩

theorem give_old {lo a b g h : Nat} (h0 : h ≤ a) (h1 : lo ≤ a) (h2 : a ≤ b) (h : Old (fun g => lo ≤ g ∧ g < h) a b g) : lo ≤ g ∧ g < b := by
  rcases h with ⟨h3, h4⟩ | ⟨h3, h4⟩
  · exact ⟨h3, by omega⟩
  · exact ⟨by omega, h4⟩
theorem fil_none {o : Option (List Nat)} {w w' : World} {e : Ending} (ho : fillOut o = none) (h : RetFil o w e w') : Below w.heap.size w w' ∧ e = .returned (.tuple #[.slice none 0 0, .int .i64 21]) := by
  obtain ⟨hb, ⟨-, e⟩ | ⟨l, g, c, e1, -⟩⟩ := h
  · exact ⟨hb, e⟩
  · rw [ho] at e1; cases e1
theorem fil_some {o : Option (List Nat)} {l : List Nat} {w w' : World} {e : Ending} (ho : fillOut o = some l) (h : RetFil o w e w') : Below w.heap.size w w' ∧ ∃ g c, e = .returned (.tuple #[.slice (some ⟨g, 0, none⟩) l.length c, .int .i64 0]) ∧ Sl .i64 w' (some ⟨g, 0, none⟩) l.length l := by
  obtain ⟨hb, ⟨e, -⟩ | ⟨l', g, c, e1, e2, -, h⟩⟩ := h
  · rw [ho] at e; cases e
  · rw [ho] at e1
    injection e1 with e1
    subst e1
    exact ⟨hb, g, c, e2, h⟩
theorem rfil_some {d : Nat} {t : IT} {l : List Nat} {w w' : World} {e : Ending} (hc : leafN d t ≤ 60 ∧ canonB d t = true) (hf : fillR d t = l) (h0 : 0 < l.length) (h60 : l.length ≤ 60) (h : RetRFil d t w e w') :
    Below w.heap.size w w' ∧ ∃ g c, e = .returned (.tuple #[.slice (some ⟨g, 0, none⟩) l.length c, .bool true]) ∧ Sl .i64 w' (some ⟨g, 0, none⟩) l.length l := by
  obtain ⟨hb, ⟨hx, -⟩ | ⟨-, v, e1, hown⟩⟩ := h
  · exact absurd hc hx
  · rw [hf] at hown
    obtain ⟨g, c, rfl⟩ := own_pos hown h0
    exact ⟨hb, g, c, e1, own_sl hown (by omega)⟩
theorem rfil_none {d : Nat} {t : IT} {w w' : World} {e : Ending} (hc : ¬ (leafN d t ≤ 60 ∧ canonB d t = true)) (h : RetRFil d t w e w') : Below w.heap.size w w' ∧ e = .returned (.tuple #[.slice none 0 0, .bool false]) := by
  obtain ⟨hb, ⟨-, e1⟩ | ⟨hx, -⟩⟩ := h
  · exact ⟨hb, e1⟩
  · exact absurd hx hc

theorem pb_next {TY : TypeId} {X0 wF : World} {lo g9 d n pn pc c : Nat} {t : IT} {pa A : Option Addr} {KT : Int} {u0 u1 u2 : Value} (hit : ITIn wF lo g9 d t (.slice pa pn pc) (.slice A n c)) (hb : Below g9 X0 wF) (hr : Blk wF g9 TY #[u0, u1, u2]) :
    Blk (((wF.setCell ⟨g9, 0, none⟩ (.int .i64 KT)).setCell ⟨g9, 1, none⟩ (.slice pa pn pc)).setCell ⟨g9, 2, none⟩ (.slice A n c)) g9 TY #[.int .i64 KT, .slice pa pn pc, .slice A n c] ∧ ITIn (((wF.setCell ⟨g9, 0, none⟩ (.int .i64 KT)).setCell ⟨g9, 1, none⟩ (.slice pa pn pc)).setCell ⟨g9, 2, none⟩ (.slice A n c)) lo g9 d t (.slice pa pn pc) (.slice A n c) ∧ Below g9 X0 (((wF.setCell ⟨g9, 0, none⟩ (.int .i64 KT)).setCell ⟨g9, 1, none⟩ (.slice pa pn pc)).setCell ⟨g9, 2, none⟩ (.slice A n c)) := by
  refine ⟨?_, ITIn.keep (w := wF) (fun g _ hg => ?_) _ _ _ _ hit, ?_⟩
  · have := ((hr.store 0 (.int .i64 KT)).store 1 (.slice pa pn pc)).store 2 (.slice A n c)
    simpa using this
  · have hne : g ≠ g9 := by omega
    exact (Below.heap_setCell _ _ _ _ hne).trans ((Below.heap_setCell _ _ _ _ hne).trans (Below.heap_setCell _ _ _ _ hne))
  · exact ((hb.setCell (p := ⟨g9, 0, none⟩) (Nat.le_refl _) (.int .i64 KT)).setCell (p := ⟨g9, 1, none⟩) (Nat.le_refl _) (.slice pa pn pc)).setCell (p := ⟨g9, 2, none⟩) (Nat.le_refl _) (.slice A n c)

set_option maxRecDepth 100000 in
set_option maxHeartbeats 8000000 in
theorem permBlocks_walk (la : Option Addr) (ln lc : Nat) (T : IT) (pa : Option Addr) (pn pc : Nat) (A : Option Addr) (n c : Nat) (w : World) (h : Ints w la ln) (hT : InT w 3 T (.slice pa pn pc) (.slice A n c)) :
    Calls Try.prog 7 #[.slice la ln lc, .agg #[.int .i64 T.kind, .slice pa pn pc, .slice A n c]] w fun e w' => e = .returned (.bool true) ∧ Below w.heap.size w w' := by
  have hN1 : 1 ≤ tameLen ln 14 := by unfold tameLen; omega
  have hN2 : tameLen ln 14 ≤ 14 := by unfold tameLen; omega
  obtain ⟨W1, hW1⟩ : ∃ W1, W1 = w.alloc (.cells #[.int .i64 T.kind, .slice pa pn pc, .slice A n c] 64) := ⟨_, rfl⟩
  have hb1 : Below w.heap.size w W1 := by rw [hW1]; exact below_new' w _
  have hbx1 : Blk W1 w.heap.size 64 #[.int .i64 T.kind, .slice pa pn pc, .slice A n c] := by rw [hW1]; exact Blk.new w _ _
  have Htame := Lib.hid (tame_cap la ln lc 14 W1 (ints_below h hb1) (by omega))
  have Hb1 := Lib.hid hb1
  have Hbx1 := Lib.hid hbx1
  have HT := Lib.hid hT
  have Hcut := Lib.hid (fun (W : World) (hW : Below w.heap.size w W) => cut_any 3 T pa pn pc A n c W (InT.below hW 3 T _ _ hT) (Nat.le_refl _))
  generalize tameLen ln 14 = N at *
  generalize T.kind = K at *
  clear hb1 hbx1 hT h
  go_enter Try.func7, Try.ntmps7
  go_upto_region 2 with (first
    | (go_at_call 32; rw [← hW1]; refine Htame.out.mono ?_; rintro e w2 ⟨gp, cp, p, rfl, hS, hp, hgp, hcp, hb2⟩; have HS := Lib.hid hS; have Hp := Lib.hid hp; have Hcp := Lib.hid hcp; have Hb2 := Lib.hid (Hb1.out.trans (hb2.mono Hb1.out.size)); have Hbx2 := Lib.hid (Hbx1.out.below hb2 Hbx1.out.lt); clear hS hp hgp hcp hb2))
  clear Htame Hbx1 hW1 Hb1
  have hlen := HS.out.len
  subst hlen
  have Hbt := Lib.hid (blocksT_any gp 0 p.length cp p w2 HS.out Hp.out (by omega) hN1 Hcp.out.1 Hcp.out.2)
  unfold RetBlocksT at Hbt
  have hkind := toIT_kind' p.length (treeF p.length p) hN1
  have Hlow := Lib.hid (low_treeF p.length p.length p hN1 (by omega))
  have Hfew := Lib.hid (tree_few Hp.out hN1 (by omega))
  have Hbr := Lib.hid (fun (W : World) (hW : Below w2.heap.size w2 W) => rblocks_all p.length gp 0 cp p W (HS.out.below hW) Hp.out hN1 (by omega) Hcp.out.1 Hcp.out.2)
  unfold RetNew at Hbr
  rw [← hkind] at Hbt
  obtain ⟨TF, hTF⟩ : ∃ TF, TF = treeF p.length p := ⟨_, rfl⟩
  rw [← hTF] at Hbt Hbr Hlow Hfew
  obtain ⟨tf, htf⟩ : ∃ tf, tf = toIT p.length TF := ⟨_, rfl⟩
  rw [← htf] at Hbt Hbr Hfew
  have Htf := Lib.hid htf
  have Hnon : Hid (NonT p.length tf) := by rw [htf]; exact nonT_toIT _ _ _
  clear hTF htf hkind HS Hp Hcp
  generalize hKT : tf.kind = KT at *
  have HKT := Lib.hid hKT
  clear hKT
  go_upto_region 3 with (go_at_call 29; refine Hbt.out.mono ?_; rintro e w3 ⟨pa3, pn3, pc3, A3, n3, c3, rfl, hT3, hb3⟩; have HT3 := Lib.hid (hT3.it _ _ _ _ Hlow.out); have Hb3 := Lib.hid hb3; clear hT3 hb3)
  rw [← Htf.out] at HT3
  clear Hbt Hlow Htf
  obtain ⟨W4, hW4⟩ : ∃ W4, W4 = w3.alloc (.cells #[.int .i64 KT, .slice pa3 pn3 pc3, .slice A3 n3 c3] 43) := ⟨_, rfl⟩
  have hb34 : Below w3.heap.size w3 W4 := by rw [hW4]; exact below_new' w3 _
  have hbx4 : Blk W4 w3.heap.size 43 #[.int .i64 KT, .slice pa3 pn3 pc3, .slice A3 n3 c3] := by rw [hW4]; exact Blk.new w3 _ _
  have hb24 : Below w2.heap.size w2 W4 := Hb3.out.trans (hb34.mono Hb3.out.size)
  have Hbr4 := Lib.hid (Hbr.out W4 hb24)
  have HT4 := Lib.hid (ITIn.keep (w' := W4) (fun g _ k2 => hb34.block g k2) _ _ _ _ HT3.out)
  have Hb4 := Lib.hid (Hb2.out.trans (hb24.mono Hb2.out.size))
  have Hbx4 := Lib.hid (Hbx2.out.below hb24 Hbx2.out.lt)
  have HbB4 := Lib.hid hbx4
  have h34 : w3.heap.size ≤ W4.heap.size := hb34.size
  have hw4 : w.heap.size ≤ W4.heap.size := Hb4.out.size
  rw [← hW4]
  clear hb34 hbx4 hb24 Hbr HT3 Hb3 Hb2 Hbx2 hW4
  go_upto_region 4 with (go_at_call 51; refine Hbr4.out.mono ?_; rintro e w5 ⟨pa5, pn5, pc5, A5, n5, c5, rfl, hT5, hb5⟩; have HT5 := Lib.hid hT5; have Hb5 := Lib.hid hb5; clear hT5 hb5)
  obtain ⟨W6, hW6⟩ : ∃ W6, W6 = w5.alloc (.cells #[.int .i64 KT, .slice pa5 pn5 pc5, .slice A5 n5 c5] 64) := ⟨_, rfl⟩
  have hb56 : Below w5.heap.size w5 W6 := by rw [hW6]; exact below_new' w5 _
  have hbx6 : Blk W6 w5.heap.size 64 #[.int .i64 KT, .slice pa5 pn5 pc5, .slice A5 n5 c5] := by rw [hW6]; exact Blk.new w5 _ _
  have hb46 : Below W4.heap.size W4 W6 := Hb5.out.trans (hb56.mono Hb5.out.size)
  have HT6 := Lib.hid (ITIn.keep (w' := W6) (fun g _ k2 => hb56.block g k2) _ _ _ _ HT5.out)
  have HTB6 := Lib.hid (ITIn.keep (w' := W6) (fun g _ k2 => hb46.block g (by omega)) _ _ _ _ HT4.out)
  have Hb6 := Lib.hid (Hb4.out.trans (hb46.mono Hb4.out.size))
  have Hbx6 := Lib.hid (Hbx4.out.below hb46 Hbx4.out.lt)
  have HbB6 := Lib.hid (HbB4.out.below hb46 HbB4.out.lt)
  have HbW6 := Lib.hid hbx6
  have h45 : W4.heap.size ≤ w5.heap.size := Hb5.out.size
  have h56 : w5.heap.size < W6.heap.size := hbx6.lt
  have Heq := Lib.hid (equal_any _ _ p.length tf pa3 pn3 pc3 A3 n3 c3 pa5 pn5 pc5 A5 n5 c5 W6 (ITIn.toS _ _ _ _ HTB6.out) (ITIn.toS _ _ _ _ HT6.out) (fun g hg => by have := hg.2; omega) (fun g hg => by have := hg.2; omega) Hnon.out Hfew.out)
  rw [HKT.out] at Heq
  obtain ⟨x0, x1, x2, -, -, -⟩ := blk_three HbB6.out
  obtain ⟨y0, y1, y2, -, -, -⟩ := blk_three HbW6.out
  rw [← hW6]
  clear hb56 hbx6 hb46 hW6 HT5 HT4 Hb5 Hb4 Hbx4 HbB4 Hbr4 HbB6 HTB6
  go_upto_region 6 with (go_at_call 52; refine Heq.out.mono ?_; rintro e w7 ⟨rfl, hb7⟩; have Hb7 := Lib.hid hb7; clear hb7)
  clear x0 x1 x2 y0 y1 y2 Heq
  have HT7 := Lib.hid (ITIn.keep (w' := w7) (fun g _ k2 => Hb7.out.block g (by omega)) _ _ _ _ HT6.out)
  have Hbw7 := Lib.hid (Hb6.out.trans (Hb7.out.mono Hb6.out.size))
  have Hbx7 := Lib.hid (Hbx6.out.below Hb7.out Hbx6.out.lt)
  have HbW7 := Lib.hid (HbW6.out.below Hb7.out h56)
  have h67 : W6.heap.size ≤ w7.heap.size := Hb7.out.size
  have Hcut7 := Lib.hid (Hcut.out w7 Hbw7.out)
  unfold RetNew at Hcut7
  generalize hKC : (cutI 3 T).kind = KC at *
  have HKC := Lib.hid hKC
  clear hKC
  obtain ⟨x0, x1, x2, -, -, -⟩ := blk_three Hbx7.out
  clear Hb7 HT6 Hb6 Hbx6 HbW6 Hcut
  go_upto_region 7 with (go_at_call 53; refine Hcut7.out.mono ?_; rintro e w8 ⟨pa8, pn8, pc8, A8, n8, c8, rfl, hT8, hb8⟩; have HT8 := Lib.hid hT8; have Hb8 := Lib.hid hb8; clear hT8 hb8)
  obtain ⟨X0, hX0⟩ : ∃ X0, X0 = w8.alloc (.cells #[.int .i64 KC, .slice pa8 pn8 pc8, .slice A8 n8 c8] 64) := ⟨_, rfl⟩
  have hb8X : Below w8.heap.size w8 X0 := by rw [hX0]; exact below_new' w8 _
  have hb7X : Below w7.heap.size w7 X0 := Hb8.out.trans (hb8X.mono Hb8.out.size)
  have HbOX : Hid (Blk X0 w8.heap.size 64 #[.int .i64 KC, .slice pa8 pn8 pc8, .slice A8 n8 c8]) := by rw [hX0]; exact Blk.new w8 _ _
  have HTO := Lib.hid (ITIn.keep (w' := X0) (fun g _ k2 => hb8X.block g k2) _ _ _ _ HT8.out)
  have HTW := Lib.hid (ITIn.keep (w' := X0) (fun g _ k2 => hb7X.block g (by omega)) _ _ _ _ HT7.out)
  have HbX := Lib.hid (Hbw7.out.trans (hb7X.mono Hbw7.out.size))
  have HbWX := Lib.hid (HbW7.out.below hb7X (by omega))
  have h78 : w7.heap.size ≤ w8.heap.size := Hb8.out.size
  obtain ⟨g9, hg9⟩ : ∃ g9, g9 = w8.heap.size := ⟨_, rfl⟩
  rw [← hg9] at HbOX HTO h78
  rw [← hX0, ← hg9]
  have Hsz7 : w.heap.size ≤ w7.heap.size := Hbw7.out.size
  clear hb8X hb7X hX0 HT8 HT7 Hb8 Hbw7 Hbx7 HbW7 Hcut7 x0 x1 x2 hg9
  have hw9 : w.heap.size ≤ g9 := by have := HbX.out.size; have := Hsz7; omega
  have h59 : w5.heap.size < g9 := by omega
  go_wp2_with fail
  go_loopw [10] (fun iv wr => ∃ (k d : Nat) (t : IT) (qa : Option Addr) (qn qc : Nat) (B : Option Addr) (m cc : Nat), k ≤ 2 ∧ iv = .int .i64 k ∧ Blk wr g9 64 #[.int .i64 t.kind, .slice qa qn qc, .slice B m cc] ∧ ITIn wr w.heap.size g9 d t (.slice qa qn qc) (.slice B m cc) ∧ nodeN d t ≤ 1000 ∧ d ≤ 100 ∧ Below g9 X0 wr) (fun iv _ => 2 - (intOf iv).toNat)
  case atStart => exact ⟨0, 4, cutI 3 T, _, _, _, _, _, _, by omega, rfl, by rw [HKC.out]; exact HbOX.out, ITIn.mono (by omega) (Nat.le_refl _) _ _ _ _ HTO.out, cut_few T, by omega, Below.refl _ _⟩
  case round =>
    obtain ⟨k, d, t, qa, qn, qc, B, m, cc, hk, rfl, hblk, hit, hnode, hd, hbel⟩ := hrel
    obtain ⟨b0, b1, b2, -, -, -⟩ := blk_three hblk
    by_cases hlt : k < 2
    · have hki : (k : Int) < 2 := by omega
      have hg9r := hblk.lt
      have Hgive := Lib.hid (give_any (fun g => w.heap.size ≤ g ∧ g < g9) d t qa qn qc B m cc wr (ITIn.toS _ _ _ _ hit) (fun g hg => by have := hg.2; omega) hnode)
      have Hfl := Lib.hid (fun (W : World) (pa' : Option Addr) (pn' pc' : Nat) (A' : Option Addr) (n' c' : Nat) (h : ITIn W w.heap.size W.heap.size d t (.slice pa' pn' pc') (.slice A' n' c')) => fillAll_any d t pa' pn' pc' A' n' c' _ _ W h (Nat.le_refl _))
      have Hrf := Lib.hid (fun (W : World) (hW : Below wr.heap.size wr W) => rfillAll_any d t qa qn qc B m cc _ _ W (ITIn.keep (w := wr) (fun g _ hg => hW.block g (by omega)) _ _ _ _ hit) (by have := hW.size; omega) hnode (Nat.le_trans (lev_le d t) hd))
      have Hsame0 := Lib.hid (fill_same hnode)
      have Hblk := Lib.hid hblk
      have Hbel := Lib.hid hbel
      unfold RetGive at Hgive
      have Hok := Lib.hid (fillR_ok d t)
      generalize hKU : t.kind = KU at *
      clear hblk hit hnode hbel hKU
      by_cases hc : leafN d t ≤ 60 ∧ canonB d t = true
      · have HP : Hid (fillOut (fillN d t 0).2 = some (fillR d t)) := Hsame0.out.trans (if_pos hc)
        have h0 : 0 < (fillR d t).length := (Hok.out hc.2).2.1
        have h60 : (fillR d t).length ≤ 60 := by rw [(Hok.out hc.2).1]; exact hc.1
        have Hc := Lib.hid hc
        obtain ⟨FR, hFR⟩ : ∃ FR, fillR d t = FR := ⟨_, rfl⟩
        rw [hFR] at HP h0 h60
        have HFR := Lib.hid hFR
        clear hc Hok Hsame0 hFR
        go_upto_region 11 with (first
          | (go_at_call 55; refine Hgive.out.mono ?_; rintro e w2 ⟨pa', pn', pc', A', n', c', rfl, hT2, hb2⟩; have Hfl2 := Lib.hid (Hfl.out w2 pa' pn' pc' A' n' c' (ITS.toIn _ _ _ _ (ITS.keep (fun g hg => ⟨give_old (by omega) (by omega) hb2.size hg, rfl⟩) _ _ _ _ hT2))); have Hb2 := Lib.hid hb2; clear hT2 hb2)
          | (go_at_call 54; refine Hfl2.out.mono ?_; intro e w3 hret; obtain ⟨hb3, g3, c3, rfl, hS3⟩ := fil_some HP.out hret; have Hb3 := Lib.hid (Hb2.out.trans (hb3.mono Hb2.out.size)); have HS3 := Lib.hid hS3; clear hret hb3 hS3))
        clear Hgive Hfl Hfl2 Hb2 b0 b1 b2
        obtain ⟨z0, z1, z2, -, -, -⟩ := blk_three (Hblk.out.below Hb3.out hg9r)
        have Hrf3 := Lib.hid (Hrf.out w3 Hb3.out)
        go_upto_region 12 with (go_at_call 56; refine Hrf3.out.mono ?_; intro e w4 hret; obtain ⟨hb4, g4, c4, rfl, hS4⟩ := rfil_some Hc.out HFR.out h0 h60 hret; have Hb4 := Lib.hid hb4; have HS4 := Lib.hid hS4; clear hret hb4 hS4)
        clear Hrf Hrf3 z0 z1 z2
        have Hsame := Lib.hid (same_yes (some ⟨g3, 0, none⟩) (some ⟨g4, 0, none⟩) FR.length FR.length FR FR w4 (HS3.out.below Hb4.out) HS4.out rfl c3 c4)
        go_upto_region 17 with (go_at_call 33; refine Hsame.out.mono ?_; rintro e w7 ⟨rfl, q, rfl⟩; have HbE := Lib.hid (below_drewN (Hb3.out.trans (Hb4.out.mono Hb3.out.size)) q))
        have HbF : Hid (Below g9 X0 (w4.drewN q)) := Lib.hid (Hbel.out.trans (HbE.out.mono (Nat.le_of_lt hg9r)))
        have HrF : Hid (Blk (w4.drewN q) g9 64 #[.int .i64 KU, .slice qa qn qc, .slice B m cc]) := Hblk.out.below HbE.out hg9r
        obtain ⟨y0, y1, y2, -, -, -⟩ := blk_three (HbWX.out.below HbF.out h59)
        obtain ⟨z0, z1, z2, v0, v1, v2⟩ := blk_three HrF.out
        have HTF := Lib.hid (ITIn.keep (w' := (w4.drewN q)) (fun g _ hg => HbF.out.block g (by omega)) _ _ _ _ HTW.out)
        have Hnx := Lib.hid (pb_next (lo := w.heap.size) (KT := KT) (ITIn.mono (by omega) (Nat.le_of_lt h59) _ _ _ _ HTF.out) HbF.out HrF.out)
        clear HbE HbF HrF HTF
        go_wp2_with fail
        go_roundw
        case rel => exact ⟨k + 1, p.length, tf, pa5, pn5, pc5, A5, n5, c5, by omega, by go_num, by rw [HKT.out]; exact Hnx.out.1, Hnx.out.2.1, Hfew.out, by omega, Hnx.out.2.2⟩
        case measure => simp [intOf]; omega
      · have HP : Hid (fillOut (fillN d t 0).2 = none) := Hsame0.out.trans (if_neg hc)
        have Hc := Lib.hid hc
        clear hc Hok Hsame0
        go_upto_region 11 with (first
          | (go_at_call 55; refine Hgive.out.mono ?_; rintro e w2 ⟨pa', pn', pc', A', n', c', rfl, hT2, hb2⟩; have Hfl2 := Lib.hid (Hfl.out w2 pa' pn' pc' A' n' c' (ITS.toIn _ _ _ _ (ITS.keep (fun g hg => ⟨give_old (by omega) (by omega) hb2.size hg, rfl⟩) _ _ _ _ hT2))); have Hb2 := Lib.hid hb2; clear hT2 hb2)
          | (go_at_call 54; refine Hfl2.out.mono ?_; intro e w3 hret; obtain ⟨hb3, rfl⟩ := fil_none HP.out hret; have Hb3 := Lib.hid (Hb2.out.trans (hb3.mono Hb2.out.size)); clear hret hb3))
        clear Hgive Hfl Hfl2 Hb2 b0 b1 b2
        obtain ⟨z0, z1, z2, -, -, -⟩ := blk_three (Hblk.out.below Hb3.out hg9r)
        have Hrf3 := Lib.hid (Hrf.out w3 Hb3.out)
        go_upto_region 12 with (go_at_call 56; refine Hrf3.out.mono ?_; intro e w4 hret; obtain ⟨hb4, rfl⟩ := rfil_none Hc.out hret; have Hb4 := Lib.hid hb4; clear hret hb4)
        clear Hrf Hrf3 z0 z1 z2
        have HbE := Lib.hid (Hb3.out.trans (Hb4.out.mono Hb3.out.size))
        go_upto_region 17 with fail
        have HbF : Hid (Below g9 X0 w4) := Lib.hid (Hbel.out.trans (HbE.out.mono (Nat.le_of_lt hg9r)))
        have HrF : Hid (Blk w4 g9 64 #[.int .i64 KU, .slice qa qn qc, .slice B m cc]) := Hblk.out.below HbE.out hg9r
        obtain ⟨y0, y1, y2, -, -, -⟩ := blk_three (HbWX.out.below HbF.out h59)
        obtain ⟨z0, z1, z2, v0, v1, v2⟩ := blk_three HrF.out
        have HTF := Lib.hid (ITIn.keep (w' := w4) (fun g _ hg => HbF.out.block g (by omega)) _ _ _ _ HTW.out)
        have Hnx := Lib.hid (pb_next (lo := w.heap.size) (KT := KT) (ITIn.mono (by omega) (Nat.le_of_lt h59) _ _ _ _ HTF.out) HbF.out HrF.out)
        clear HbE HbF HrF HTF
        go_wp2_with fail
        go_roundw
        case rel => exact ⟨k + 1, p.length, tf, pa5, pn5, pc5, A5, n5, c5, by omega, by go_num, by rw [HKT.out]; exact Hnx.out.1, Hnx.out.2.1, Hfew.out, by omega, Hnx.out.2.2⟩
        case measure => simp [intOf]; omega
    · have hki : ¬ (k : Int) < 2 := by omega
      have Hbe := Lib.hid (HbX.out.trans (hbel.mono hw9))
      go_wp2_with (go_at_call 23; refine (awake_any _).mono ?_; rintro e w9 ⟨rfl, hb9⟩)
      go_ret
      exact ⟨rfl, Hbe.out.trans (hb9.mono Hbe.out.size)⟩

end Go.Proofs.Ytgdaidmkcgblbaa

namespace Go.Proofs.Ytgdaidmkcgblbaa.permBlocks
open Go.ChangeShapes Go.WideShapes Go.ChangeAt Go.RowKit
set_option linter.unusedVariables false

set_option maxRecDepth 100000 in
theorem open_tree {H : Type} {enc : TypeId × Value → H} {W : World} {r : Reach} {b0 : Nat} {held : Bool} {v : Value} {d : DataW H} {p : List MemPlace}
    (hv : Value.okWide Try.prog W r b0 64 v) (h : DataW.Trod enc Try.prog W 0 (fun _ => true) held 64 v d p) :
    ∃ T pa pn pc A n c, v = .agg #[.int .i64 (IT.kind T), .slice pa pn pc, .slice A n c] ∧ InT W 3 T (.slice pa pn pc) (.slice A n c) := by
  simp only [Value.okWide, Try.underlying64] at hv
  obtain ⟨cs, rfl, _⟩ := hv
  obtain ⟨fuel, hf⟩ := h
  obtain ⟨T, pv, sv, e, hT⟩ := tree_trod 3 fuel cs.toList _ hf
  obtain ⟨pa, pn, pc, A, n, c, rfl, rfl⟩ := hT.slices
  refine ⟨T, pa, pn, pc, A, n, c, ?_, hT⟩
  obtain rfl : cs = #[.int .i64 T.kind, .slice pa pn pc, .slice A n c] := by cases cs; simp_all
  rfl

set_option maxRecDepth 100000 in
theorem lifted (os : Os) (started : os.Started) (H : Type) (enc : TypeId × Value → H) :
    ReturnsInHanded {} Try.checked os 7 .any (Rows.permBlocksSpec.pre6 enc Try.prog Try.f7 Rows.permBlocksRow.domain false) (Rows.permBlocksSpec.post enc Try.prog Try.f7 false true false false) := by
  refine returnsInHanded_of_change (C := Try.checked) own_knob started (by kernel_rfl) Try.func7
    (ChangeSpec.witness6 (enc := enc) (C := Try.checked) false ⟨#[], #[.slice none 0 0, .agg #[.int .i64 0, .slice none 0 0, .slice none 0 0]], []⟩ 8 (by kernel_rfl) (by kernel_rfl) (by kernel_rfl) (by kernel_rfl)) ?_
  intro W base args ds gs before hval0 hW hcnd _
  have hval : ∀ (j : Nat) t v, Try.f7.params[j]? = some t → args[j]? = some v → Value.okWide Try.prog W .any base t v := hval0
  have hW' := hW
  obtain ⟨p, q, hA0, hV, rfl, hfz, hnd⟩ := hW
  have hA : DataW.TrodAll enc Try.prog W 0 (fun _ => true) true Try.f7.params.toList args.toList ds p := hA0
  rw [Try.params7] at hA hval
  obtain ⟨v0, vs0, d0, ds0, p0, q0, hargs, rfl, rfl, h0, r0⟩ := trodAll_cons hA
  obtain ⟨v1, vs1, d1, ds1, p1, q1, rfl, rfl, rfl, h1, r1⟩ := trodAll_cons r0
  obtain ⟨rfl, rfl, rfl⟩ := trodAll_nil r1
  obtain rfl : args = #[v0, v1] := by cases args; simp_all
  obtain ⟨rfl, rfl⟩ := trodVars_none hV
  obtain ⟨a0, len0, cap0, rfl⟩ := okWide_slice Try.underlying22 (hval 0 22 v0 rfl rfl)
  have lt0 : ∀ x ∈ p0, x.block < W.heap.size := by obtain ⟨m, hm⟩ := h0; exact DataW.trod_lt m _ _ _ hm
  have lt1 : ∀ x ∈ p1, x.block < W.heap.size := by obtain ⟨m, hm⟩ := h1; exact DataW.trod_lt m _ _ _ hm
  obtain ⟨z0, w0⟩ := open_row h0
  obtain ⟨T, pa, pn, pc, A, n, c, rfl, hT⟩ := open_tree (hval 1 64 v1 rfl rfl) h1
  clear hA0 hval0
  refine (permBlocks_walk a0 len0 cap0 T pa pn pc A n c W (ints_of_row w0) hT).mono fun e W' ⟨he, bel⟩ => ?_
  subst he
  exact ⟨_, rfl, _, _, _, [], _, [], hW', trodAll_mk1 (shut_bool Try.underlying4 _), (trodAll_cons_mk (Below.trod laid_out (by kernel_rfl) (of_decide_eq_true (by kernel_rfl)) h0 bel lt0) (trodAll_cons_mk (Below.trod laid_out (by kernel_rfl) (of_decide_eq_true (by kernel_rfl)) h1 bel lt1) trodAll_mk0)), rfl, bel.frame _, fun h => by cases h⟩

theorem over : Rows.permBlocksRow.holds Try.pinned (OpenSpec.ofChange Rows.permBlocksSpec) :=
  OpenClaim.holds_of_wide 7 Try.f7 rfl rfl rfl rfl rfl rfl rfl ⟨rfl, rfl, rfl, rfl, rfl⟩ rfl rfl rfl rfl rfl (by kernel_rfl) Try.func7 (by kernel_rfl)
    (of_decide_eq_true (by kernel_rfl)) (by unfold Func.isWrapper; first | (rw [if_pos (by decide +kernel)]; kernel_rfl) | (rw [if_neg (by decide +kernel)]; exact ⟨rfl, rfl⟩))
    (fun os started H enc _ => lifted os started H enc)
end Go.Proofs.Ytgdaidmkcgblbaa.permBlocks

namespace Go.Proofs.Ytgdaidmkcgblbaa
theorem permBlocks_proved : Rows.PermBlocksSaid := permBlocks.over
#print axioms permBlocks_proved
end Go.Proofs.Ytgdaidmkcgblbaa
