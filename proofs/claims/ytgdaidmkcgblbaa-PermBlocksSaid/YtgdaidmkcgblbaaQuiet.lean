/-
  A region that only reads, in a round of a loop over an iterator: one walk in the order of the text serves every order.
-/
import Derived.Test.YtgdaidmkcgblbaaLaw
import Derived.Sort.QuietIn
namespace Go.Proofs.Ytgdaidmkcgblbaa
open Go.RowKit Go.Shelf

theorem op_round {F : Fence} {n : Nat} {P : Program} {C : World → Prop} {o : Oper} {a : Act} {K : Act → Prop} {K' : Act → World → Prop} {Q' : Exit → Act → World → Prop} {w : World} (l₀ : Nat) (hd : ∀ c, o.op ≠ .defer c) (hw : C w)
    (h : ∀ a w', C w' → K a → K' a w') (ha : o.askedIn F P a C) (hh : o.quietIn F n P a C K) : o.wpIn (F.inRound l₀) n P a w K' Q' := by
  obtain ⟨v, hv, hK⟩ := hh
  have hv := hv w hw
  refine ⟨fun f hf => ha w hw f hf, ?_⟩
  show o.uponIn (F.inRound l₀) n P a K' Q' ((o.semAt (some l₀) a.eval).run P w)
  rw [Oper.semAt_some _ _ _ hd]
  unfold Oper.quietAtIn at hv
  rcases hr : (execOp a.eval o).run P w with ⟨x, w'⟩ | ⟨x, w'⟩
  · rw [hr] at hv
    rcases x with _ | _ | _ | _ | _ | _
    all_goals try exact hv.elim
    case value u =>
      obtain ⟨rfl, rfl⟩ := hv
      exact h _ _ hw hK
    case skip =>
      obtain ⟨rfl, rfl⟩ := hv
      exact h _ _ hw hK
    case enter f args =>
      obtain ⟨rfl, hdep, hc⟩ := hv
      refine ⟨hdep, CallsIn.inRound l₀ (hc.mono fun e w'' he => ?_)⟩
      obtain ⟨rfl, hw''⟩ := he
      exact h _ _ hw'' hK
  · rw [hr] at hv
    exact hv.elim

theorem any_round {F : Fence} {n : Nat} {P : Program} {md : Region.Mode} {ops : Array Oper} {C : World → Prop} {Q : Act → Prop} {Q' : Exit → Act → World → Prop} (l₀ : Nat) (hd : ∀ (i : Nat) (o : Oper), ops[i]? = some o → ∀ c, o.op ≠ .defer c) (hQ : ∀ a w, C w → Q a → Q' .normal a w) :
    ∀ (fuel : Nat) (listed : Array Bool) (a : Act) (w : World), C w → wpAnyQIn F n P md ops C Q fuel listed a → wpAnyIn (F.inRound l₀) n P md ops Q' fuel listed a w
  | 0, _, _, _, hw, h => ⟨h.1, hQ _ _ hw h.2⟩
  | fuel + 1, listed, a, w, hw, h => by
    refine ⟨fun h0 => hQ _ _ hw (h.1 h0), fun i hi => ?_⟩
    have hq := h.2 i hi
    unfold qOpIn at hq
    unfold wpOpIn
    rcases ho : ops[i]? with _ | o
    · rw [ho] at hq
      exact any_round l₀ hd hQ fuel _ _ _ hw hq
    · rw [ho] at hq
      obtain ⟨hask, hq⟩ := hq
      show if Region.wanted o (yielded ops a.tmps) = true then _ else _
      by_cases hwt : Region.wanted o (yielded ops a.tmps) = true
      · rw [if_pos hwt] at hq ⊢
        exact op_round l₀ (hd i o ho) hw (fun a' w' hw' => any_round l₀ hd hQ fuel _ a' w' hw') hask hq
      · rw [if_neg hwt] at hq ⊢
        exact ⟨fun f hf => hask w hw f hf, any_round l₀ hd hQ fuel _ _ _ hw hq⟩

/-- No operation defers a call. -/
def noDefers (l : List Oper) : Bool := l.all fun o => match o.op with | .defer _ => false | _ => true
theorem noDefers_spec {l : List Oper} (h : noDefers l = true) : ∀ (i : Nat) (o : Oper), l.toArray[i]? = some o → ∀ c, o.op ≠ .defer c := by
  intro i o ho c e
  have hm : o ∈ l := by
    rw [List.getElem?_toArray] at ho
    exact List.mem_of_getElem? ho
  have := List.all_eq_true.1 h o hm
  rw [e] at this
  exact absurd this (by simp)

theorem region_quiet_round {F : Fence} {n : Nat} {P : Program} {id : Nat} {Q : Exit → Act → World → Prop} {a : Act} {w : World} {l : List Oper} (l₀ : Nat) (hm : P.follows .mixedOrders = true) (hB : Region.lexB .any l.toArray = true) (hd : noDefers l = true)
    (h : wpQuietIn F n P l.toArray (fun w' => ∃ n, w' = w.drewN n) (fun a' => ∀ w', (∃ n, w' = w.drewN n) → Q .normal a' w') l a) : (Code.region id l.toArray true).wpIn (F.inRound l₀) n P Q a w := by
  simp only [Region.lexB, Bool.and_eq_true] at hB
  refine wpIn_region_any hm (any_round l₀ (noDefers_spec hd) (Q := fun a' => ∀ w', (∃ n, w' = w.drewN n) → Q .normal a' w') (C := fun w' => ∃ n, w' = w.drewN n) (fun _ w' hw' k => k w' hw') _ _ _ _ ⟨1, rfl⟩ ?_)
  have := wpAnyQIn_lex (F := F) (n := n) (P := P) (C := fun w' => ∃ n, w' = w.drewN n) (md := .any) hB.1 l 0 (Array.replicate l.toArray.size false) a (by simp) (by simpa using hB.2) h
  simpa using this

theorem _root_.Go.KeepsFrom.mono_base {B B' : Nat} {W W' : World} (h : KeepsFrom B W W') (hB : B ≤ B') : KeepsFrom B' W W' := ⟨h.1, fun k o hk => h.2 k o (Nat.le_trans hB hk)⟩

end Go.Proofs.Ytgdaidmkcgblbaa
