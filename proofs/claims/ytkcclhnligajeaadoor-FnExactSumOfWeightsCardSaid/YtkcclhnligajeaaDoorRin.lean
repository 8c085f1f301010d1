/-
  A region without calls that draws its order, within a round of a loop over an iterator: what holds of it plainly holds of it there.
-/
import Derived.Test.YtkcclhnligajeaaDoorVac
import Derived.OrdersIn
import Derived.OrdersHeld
namespace Go.Proofs.YtkcclhnligajeaaDoor

def CalmR : Result Next → Prop
  | .ok (.value _) _ => True
  | .ok .skip _ => True
  | .halt _ _ => True
  | _ => False
theorem calm_v {P : Program} (s : Sem Value) (w : World) : CalmR ((do pure (.value (← s)) : Sem Next).run P w) := by
  rw [Sem.run_bind]
  cases s.run P w <;> trivial
theorem calm_u {P : Program} (s : Sem Unit) (w : World) : CalmR ((do s; pure .skip : Sem Next).run P w) := by
  rw [Sem.run_bind]
  cases s.run P w <;> trivial
def plainOp : Op → Bool
  | .move _ | .assign _ | .load _ _ | .store _ _ _ | .binOp _ _ _ _ _ | .fieldAddr _ _ _ | .build _ _ | .buildSlice _ _ _ => true
  | .call c => match c.callee with | .builtin .append => true | _ => false
  | _ => false
theorem plainOp_calm {P : Program} {o : Oper} (h : plainOp o.op = true) : (∀ c, o.op ≠ .defer c) ∧ ∀ ρ w, CalmR ((execOp ρ o).run P w) := by
  refine ⟨fun c e => (by rw [e] at h; cases h), fun ρ w => ?_⟩
  cases ho : o.op with
  | move x => simp only [execOp, ho]; trivial
  | assign x => simp only [execOp, ho]; trivial
  | load t x => simp only [execOp, ho]; exact calm_v _ _
  | store t x y => simp only [execOp, ho]; exact calm_u _ _
  | binOp op t x y p => simp only [execOp, ho]; exact calm_v _ _
  | fieldAddr t x f => simp only [execOp, ho]; exact calm_v _ _
  | build t p => simp only [execOp, ho]; exact calm_v _ _
  | buildSlice t l p => simp only [execOp, ho]; exact calm_v _ _
  | call c =>
    rw [ho] at h
    cases hc : c.callee with
    | builtin b =>
      cases b with
      | append =>
        simp only [execOp, ho, resolve, hc, Sem.run_bind, Sem.run_pure, Result.andThen_ok, invoke, builtin]
        cases (Builtin.append_ c.argTypes o.type (c.args.map ρ)).run P w <;> trivial
      | _ => simp [plainOp, hc] at h
    | _ => simp [plainOp, hc] at h
  | _ => rw [ho] at h; cases h

section
variable {F : Fence} {n : Nat} {P : Program} {ops : Array Oper} {Q : Exit → Act → World → Prop} {md : Region.Mode}
theorem wpOpIn_of {i : Nat} {K K' : Act → World → Prop} {a : Act} {w : World} (hL : ¬ LetsOut Q) (hF : ∀ f, F.fn f) (hp : ∀ o, ops[i]? = some o → plainOp o.op = true) (hK : ∀ a w, K a w → K' a w)
    (h : wpOp P ops Q i K a w) : wpOpIn F n P ops Q i K' a w := by
  unfold wpOp at h
  unfold wpOpIn
  cases ho : ops[i]? with
  | none => simp only [ho] at h ⊢; exact hK _ _ h
  | some o =>
    simp only [ho] at h ⊢
    obtain ⟨h1, h2⟩ := plainOp_calm (P := P) (hp o ho)
    split
    · rename_i hw
      simp only [hw, if_true] at h
      refine ⟨fun f _ => hF f, ?_⟩
      rw [Oper.semAt_eq _ _ _ h1]
      have hc := h2 a.eval w
      have h := (show Oper.upon P o a K Q ((execOp a.eval o).run P w) ∨ _ from h).resolve_right (fun h9 => hL h9.2)
      generalize (execOp a.eval o).run P w = r at *
      cases r with
      | ok x w' =>
        cases x <;> first
          | exact hc.elim
          | exact hK _ _ h
      | halt x w' => cases x <;> exact h
    · rename_i hw
      simp only [hw] at h
      exact ⟨fun f _ => hF f, hK _ _ h⟩
theorem wpAnyIn_of (hL : ¬ LetsOut Q) (hF : ∀ f, F.fn f) (hp : ∀ (i : Nat) (o : Oper), ops[i]? = some o → plainOp o.op = true) : ∀ (fuel : Nat) (listed : Array Bool) (a : Act) (w : World), wpAny P md ops Q fuel listed a w → wpAnyIn F n P md ops Q fuel listed a w
  | 0, _, _, _, h => h
  | fuel + 1, _, _, _, h => ⟨h.1, fun i hi => wpOpIn_of hL hF (hp i) (fun a' w' h' => wpAnyIn_of hL hF hp fuel _ a' w' h') (h.2 i hi)⟩
/-- The beginning, within a round. -/
theorem wpIn_region_heldP {id : Nat} {l : List Oper} {a : Act} {w : World} {S : World → Prop} (hL : ¬ LetsOut Q) (hF : ∀ f, F.fn f) (hm : P.follows .mixedOrders = true) (hp : (l.all fun o => plainOp o.op) = true) (hS : S w.drew)
    (h : S w.drew → wpAnyH P .any l.toArray Q S l.toArray.size (Array.replicate l.toArray.size false) a w.drew) : (Code.region id l.toArray true).wpIn F n P Q a w :=
  wpIn_region_any hm (wpAnyIn_of hL hF (fun i o ho => by
    rw [List.getElem?_toArray] at ho
    exact List.all_eq_true.1 hp o (List.mem_of_getElem? ho)) _ _ _ _ (wpAny_of_held _ _ _ _ (h hS)))
end
end Go.Proofs.YtkcclhnligajeaaDoor
