/-
  Mathematics of words as a group: words with the same reduced form, and a reduced word as a handle, a loop and the inverse of the handle.
  Mathematics of rotation: where a loop occurs in the double of another one.
-/
import Derived.Test.YtojjpbeaifiejaaRedM
import Derived.Test.YtojjpbeaifiejaaSplit
import Derived.Test.YtojjpbeaifiejaaRoot
namespace Go.Proofs.Ytojjpbeaifiejaa

/-- The same wire. -/
def Eqv (u v : List Nat) : Prop := redL u = redL v
theorem Eqv.refl (u : List Nat) : Eqv u u := rfl
theorem Eqv.symm {u v : List Nat} (h : Eqv u v) : Eqv v u := Eq.symm h
theorem Eqv.trans {u v x : List Nat} (h : Eqv u v) (g : Eqv v x) : Eqv u x := Eq.trans h g
theorem eqv_red {u : List Nat} (hu : IsWord u) : Eqv (redL u) u := red_red hu
theorem Eqv.append {u u' v v' : List Nat} (hu : IsWord u) (hu' : IsWord u') (hv : IsWord v) (hv' : IsWord v') (h : Eqv u u') (g : Eqv v v') : Eqv (u ++ v) (u' ++ v') := by
  unfold Eqv at *
  rw [← red_append hu hv, h, g, red_append hu' hv']
theorem Eqv.left {u v v' : List Nat} (hu : IsWord u) (hv : IsWord v) (hv' : IsWord v') (g : Eqv v v') : Eqv (u ++ v) (u ++ v') := Eqv.append hu hu hv hv' rfl g
theorem Eqv.right {u u' v : List Nat} (hu : IsWord u) (hu' : IsWord u') (hv : IsWord v) (g : Eqv u u') : Eqv (u ++ v) (u' ++ v) := Eqv.append hu hu' hv hv g rfl
theorem eqv_inv_right {u : List Nat} (hu : IsWord u) : Eqv (u ++ invL u) [] := red_inv hu
theorem eqv_inv_left {u : List Nat} (hu : IsWord u) : Eqv (invL u ++ u) [] := by
  have h := red_inv (invL_word hu)
  rwa [invL_invL hu] at h
/-- What stands between a word and its inverse is left out. -/
theorem eqv_cancel_left {u v : List Nat} (hu : IsWord u) (hv : IsWord v) : Eqv (invL u ++ (u ++ v)) v := by
  have h := (eqv_inv_left hu).right (v := v) ((invL_word hu).append hu) IsWord.nil hv
  rwa [List.append_assoc] at h
theorem eqv_cancel_right {u v : List Nat} (hu : IsWord u) (hv : IsWord v) : Eqv (u ++ (invL u ++ v)) v := by
  have h := (eqv_inv_right hu).right (v := v) (hu.append (invL_word hu)) IsWord.nil hv
  rwa [List.append_assoc] at h
theorem Eqv.inv {u v : List Nat} (hu : IsWord u) (hv : IsWord v) (h : Eqv u v) : Eqv (invL u) (invL v) := by
  have iu := invL_word hu
  have iv := invL_word hv
  -- invL u = invL u v invL v = invL u u invL v = invL v
  have h1 : Eqv (invL u ++ (v ++ invL v)) (invL u) := by
    have := (eqv_inv_right hv).left iu (hv.append iv) IsWord.nil
    rwa [List.append_nil] at this
  have h2 : Eqv (invL u ++ (v ++ invL v)) (invL u ++ (u ++ invL v)) := Eqv.left iu (hv.append iv) (hu.append iv) (Eqv.right hv hu iv h.symm)
  exact h1.symm.trans (h2.trans (eqv_cancel_left hu iv))

/-- The two ends of a word, as far as they undo each other. -/
theorem core_ends (l : List Nat) : ∀ (f k : Nat), (∀ i, i < k → l.getD i 0 = inv (l.getD (l.length - 1 - i) 0)) → ∀ i, i < coreF l f k → l.getD i 0 = inv (l.getD (l.length - 1 - i) 0)
  | 0, _, h => h
  | f + 1, k, h => by
    unfold coreF
    split
    · rename_i c
      refine core_ends l f (k + 1) fun i hi => ?_
      rcases Nat.lt_or_ge i k with g | g
      · exact h i g
      · obtain rfl : i = k := by omega
        rw [c.2, show l.length - i - 1 = l.length - 1 - i by omega]
    · exact h
theorem core_end_inv {l : List Nat} (hw : IsWord l) : l.drop (l.length - coreK l) = invL (l.take (coreK l)) := by
  have hk := coreK_le l
  have he := core_ends l l.length 0 (fun i hi => absurd hi (by omega))
  show l.drop (l.length - coreK l) = ((l.take (coreK l)).map inv).reverse
  apply List.ext_getElem
  · rw [List.length_drop, List.length_reverse, List.length_map, List.length_take]; omega
  · intro i h1 h2
    rw [List.length_drop] at h1
    have hik : i < coreK l := by omega
    rw [List.getElem_drop, List.getElem_reverse, List.getElem_map, List.getElem_take]
    have e := he (coreK l - 1 - i) (by show _ < coreK l; omega)
    rw [List.getD_eq_getElem?_getD, List.getD_eq_getElem?_getD, List.getElem?_eq_getElem (by omega), List.getElem?_eq_getElem (by omega)] at e
    simp only [Option.getD_some] at e
    have e2 : inv l[coreK l - 1 - i] = l[l.length - 1 - (coreK l - 1 - i)] := by
      rw [e, inv_inv (hw _ (List.getElem_mem _))]
    have e3 : (List.map inv (l.take (coreK l))).length - 1 - i = coreK l - 1 - i := by rw [List.length_map, List.length_take]; omega
    simp only [e3]
    rw [e2]
    congr 1
    omega
/-- A word is its handle, its loop, and the inverse of the handle. -/
theorem split_eq {l : List Nat} (hw : IsWord l) : l = handleL l ++ (loopL l ++ invL (handleL l)) := by
  have hk := coreK_le l
  unfold handleL loopL
  rw [← core_end_inv hw]
  have h1 : (l.drop (coreK l)).take (l.length - 2 * coreK l) ++ l.drop (l.length - coreK l) = l.drop (coreK l) := by
    have h2 := List.take_append_drop (l.length - 2 * coreK l) (l.drop (coreK l))
    rw [List.drop_drop, show coreK l + (l.length - 2 * coreK l) = l.length - coreK l by omega] at h2
    exact h2
  rw [h1, List.take_append_drop]

/-- A loop that begins later. -/
def rotL (l : List Nat) (i : Nat) : List Nat := l.drop i ++ l.take i
theorem rotL_length {l : List Nat} {i : Nat} (h : i ≤ l.length) : (rotL l i).length = l.length := by
  unfold rotL
  rw [List.length_append, List.length_drop, List.length_take]; omega
/-- What turns a word into one whose loop begins later. -/
theorem turned_eqv {a b : List Nat} (ha : IsWord a) (hb : IsWord b) {i : Nat} (h : rotL (loopL a) i = loopL b) :
    Eqv ((handleL b ++ (invL ((loopL a).take i) ++ invL (handleL a))) ++ (a ++ invL (handleL b ++ (invL ((loopL a).take i) ++ invL (handleL a))))) b := by
  have wha := handle_word ha
  have whb := handle_word hb
  have wla := loop_word ha
  have wlb := loop_word hb
  have ea := split_eq ha
  have eb := split_eq hb
  generalize handleL a = A at *
  generalize handleL b = B at *
  generalize loopL a = L at *
  generalize loopL b = M at *
  have wp : IsWord (L.take i) := wla.take i
  have ws : IsWord (L.drop i) := wla.drop i
  have eL : L = L.take i ++ L.drop i := (List.take_append_drop i L).symm
  have eM : M = L.drop i ++ L.take i := h.symm
  generalize L.take i = p at *
  generalize L.drop i = s at *
  subst eL eM
  have ip := invL_word wp
  have iA := invL_word wha
  have iB := invL_word whb
  rw [invL_append, invL_append, invL_invL wp, invL_invL wha]
  -- B p' A' (A (p s) A') (A p B') = B s p B'
  have e1 : Eqv (a ++ (A ++ p ++ invL B)) (A ++ ((p ++ s) ++ (p ++ invL B))) := by
    rw [ea]
    have h1 : A ++ ((p ++ s) ++ invL A) ++ (A ++ p ++ invL B) = (A ++ (p ++ s)) ++ (invL A ++ (A ++ (p ++ invL B))) := by simp only [List.append_assoc]
    have h2 : A ++ ((p ++ s) ++ (p ++ invL B)) = (A ++ (p ++ s)) ++ (p ++ invL B) := by simp only [List.append_assoc]
    rw [h1, h2]
    exact Eqv.left (wha.append (wp.append ws)) (iA.append (wha.append (wp.append iB))) (wp.append iB) (eqv_cancel_left wha (wp.append iB))
  have e2 : Eqv ((B ++ (invL p ++ invL A)) ++ (a ++ (A ++ p ++ invL B))) ((B ++ (invL p ++ invL A)) ++ (A ++ ((p ++ s) ++ (p ++ invL B)))) :=
    Eqv.left (whb.append (ip.append iA)) (ha.append ((wha.append wp).append iB)) (wha.append ((wp.append ws).append (wp.append iB))) e1
  refine e2.trans ?_
  have h3 : (B ++ (invL p ++ invL A)) ++ (A ++ ((p ++ s) ++ (p ++ invL B))) = (B ++ invL p) ++ (invL A ++ (A ++ ((p ++ s) ++ (p ++ invL B)))) := by simp only [List.append_assoc]
  rw [h3]
  have e4 : Eqv ((B ++ invL p) ++ (invL A ++ (A ++ ((p ++ s) ++ (p ++ invL B))))) ((B ++ invL p) ++ ((p ++ s) ++ (p ++ invL B))) :=
    Eqv.left (whb.append ip) (iA.append (wha.append ((wp.append ws).append (wp.append iB)))) ((wp.append ws).append (wp.append iB)) (eqv_cancel_left wha ((wp.append ws).append (wp.append iB)))
  refine e4.trans ?_
  have h5 : (B ++ invL p) ++ ((p ++ s) ++ (p ++ invL B)) = B ++ (invL p ++ (p ++ (s ++ (p ++ invL B)))) := by simp only [List.append_assoc]
  rw [h5, eb]
  have h6 : B ++ ((s ++ p) ++ invL B) = B ++ (s ++ (p ++ invL B)) := by simp only [List.append_assoc]
  rw [h6]
  exact Eqv.left whb (ip.append (wp.append (ws.append (wp.append iB)))) (ws.append (wp.append iB)) (eqv_cancel_left wp (ws.append (wp.append iB)))

end Go.Proofs.Ytojjpbeaifiejaa

namespace Go.Proofs.Ytojjpbeaifiejaa

theorem bytes_ints (l : List Nat) : Lib.bytesOf (ints l) = l.map UInt8.ofNat := by
  unfold Lib.bytesOf ints
  rw [List.map_map]
  exact List.map_congr_left fun x _ => rfl
theorem bytes_inj {l m : List Nat} (hl : ∀ c ∈ l, c < 256) (hm : ∀ c ∈ m, c < 256) (h : l.map UInt8.ofNat = m.map UInt8.ofNat) : l = m := by
  have key : ∀ l : List Nat, (∀ c ∈ l, c < 256) → (l.map UInt8.ofNat).map UInt8.toNat = l := fun l hl => by
    rw [List.map_map]
    exact (List.map_congr_left fun c hc => by
      show (UInt8.ofNat c).toNat = c
      rw [UInt8.toNat_ofNat']
      exact Nat.mod_eq_of_lt (hl c hc)).trans (List.map_id' l)
  rw [← key l hl, h, key m hm]
theorem double_take {l : List Nat} {i : Nat} (h : i ≤ l.length) : ((l ++ l).drop i).take l.length = rotL l i := by
  unfold rotL
  rw [List.drop_append_of_le_length h, List.take_append, List.take_of_length_le (by rw [List.length_drop]; omega), List.length_drop, show l.length - (l.length - i) = i by omega]
theorem occ_iff {l l2 : List Nat} (hl : ∀ c ∈ l, c < 256) (hl2 : ∀ c ∈ l2, c < 256) (hlen : l2.length = l.length) {first j : Nat} (h2 : first + j ≤ 2 * l.length) :
    Lib.occAt (Lib.bytesOf (ints ((l ++ l).drop first))) (Lib.bytesOf (ints l2)) j = true ↔ first + j ≤ l.length ∧ rotL l (first + j) = l2 := by
  unfold Lib.occAt
  rw [List.isPrefixOf_iff_prefix, List.prefix_iff_eq_take, bytes_ints, bytes_ints, ← List.map_drop, List.drop_drop, List.length_map, ← List.map_take, hlen]
  constructor
  · intro h
    have hlen2 := congrArg List.length h
    rw [List.length_map, List.length_map, List.length_take, List.length_drop, List.length_append] at hlen2
    have hle : first + j ≤ l.length := by omega
    refine ⟨hle, ?_⟩
    rw [double_take hle] at h
    refine (bytes_inj hl2 (fun c hc => ?_) h).symm
    unfold rotL at hc
    rcases List.mem_append.1 hc with hc | hc
    · exact hl c (List.mem_of_mem_drop hc)
    · exact hl c (List.mem_of_mem_take hc)
  · rintro ⟨hle, h⟩
    rw [double_take hle, h]
theorem double_len (l : List Nat) (first : Nat) : (Lib.bytesOf (ints ((l ++ l).drop first))).length = 2 * l.length - first := by
  rw [bytes_ints, List.length_map, List.length_drop, List.length_append]
  omega
/-- A loop that is found: the least place. -/
theorem rot_hit {l l2 : List Nat} (hl : ∀ c ∈ l, c < 256) (hl2 : ∀ c ∈ l2, c < 256) (hlen : l2.length = l.length) {first : Nat} (hf : first ≤ l.length) (h : ∃ i, first ≤ i ∧ i ≤ l.length ∧ rotL l i = l2) :
    ∃ at' : Nat, rotF l l2 first = at' ∧ first + at' ≤ l.length ∧ rotL l (first + at') = l2 ∧ ∀ j, first ≤ j → j < first + at' → rotL l j ≠ l2 := by
  have hex : ∃ d, first + d ≤ l.length ∧ rotL l (first + d) = l2 := by
    obtain ⟨i, h1, h2, h3⟩ := h
    exact ⟨i - first, by omega, by rw [show first + (i - first) = i by omega]; exact h3⟩
  have hleast : ∃ d, (first + d ≤ l.length ∧ rotL l (first + d) = l2) ∧ ∀ e, e < d → ¬ (first + e ≤ l.length ∧ rotL l (first + e) = l2) := by
    obtain ⟨d, hd⟩ := hex
    induction d using Nat.strongRecOn with
    | ind d ih =>
      by_cases hno : ∀ e, e < d → ¬ (first + e ≤ l.length ∧ rotL l (first + e) = l2)
      · exact ⟨d, hd, hno⟩
      · obtain ⟨e, he⟩ := Classical.not_forall.1 hno
        obtain ⟨h1, h2⟩ := Classical.not_imp.1 he
        exact ih e h1 (Classical.not_not.1 h2)
  obtain ⟨d, ⟨h1, h2⟩, h3⟩ := hleast
  refine ⟨d, ?_, h1, h2, fun j hj1 hj2 e => h3 (j - first) (by omega) ⟨by omega, by rw [show first + (j - first) = j by omega]; exact e⟩⟩
  unfold rotF
  refine Lib.index_first (by rw [double_len]; omega) ((occ_iff hl hl2 hlen (by omega)).2 ⟨h1, h2⟩) fun j hj => ?_
  cases e : Lib.occAt (Lib.bytesOf (ints ((l ++ l).drop first))) (Lib.bytesOf (ints l2)) j with
  | false => rfl
  | true => exact absurd ((occ_iff hl hl2 hlen (by omega)).1 e) (h3 j hj)
/-- A loop that is not found. -/
theorem rot_miss {l l2 : List Nat} (hl : ∀ c ∈ l, c < 256) (hl2 : ∀ c ∈ l2, c < 256) (hlen : l2.length = l.length) {first : Nat} (hf : first ≤ l.length) (h : ¬ ∃ i, first ≤ i ∧ i ≤ l.length ∧ rotL l i = l2) :
    rotF l l2 first = -1 := by
  unfold rotF
  refine Lib.index_none fun j hj => ?_
  rw [double_len] at hj
  cases e : Lib.occAt (Lib.bytesOf (ints ((l ++ l).drop first))) (Lib.bytesOf (ints l2)) j with
  | false => rfl
  | true =>
    obtain ⟨h1, h2⟩ := (occ_iff hl hl2 hlen (by omega)).1 e
    exact absurd ⟨first + j, by omega, h1, h2⟩ h

end Go.Proofs.Ytojjpbeaifiejaa
