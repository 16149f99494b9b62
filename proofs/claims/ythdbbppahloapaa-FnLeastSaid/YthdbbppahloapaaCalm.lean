/-
  A region that draws its order and calls nothing, in a round of a loop over a function: it goes as anywhere.
-/
import Derived.Test.YthdbbppahloapaaBase0
import Derived.Deep.RegionHeld3
import Derived.OrdersIn
import Derived.TacticsIn
import Derived.OwnWalkIn
namespace Go.Proofs.Ythdbbppahloapaa
open Go.RowKit

/-- it calls nothing -/
def NoEnter (P : Program) (s : Sem Next) : Prop := ∀ w x w', s.run P w = .ok x w' → (∀ f args, x ≠ .enter f args) ∧ (∀ r args, x ≠ .row r args)
theorem NoEnter.val {P : Program} (m : Sem Value) : NoEnter P (do pure (Next.value (← m))) := by
  intro w x w' h
  rw [Sem.run_bind] at h
  cases hm : m.run P w with
  | ok v w1 =>
    rw [hm] at h
    simp only [Result.andThen_ok, Sem.run_pure] at h
    injection h with h1 h2
    subst h1
    exact ⟨fun _ _ e => (by cases e), fun _ _ e => (by cases e)⟩
  | halt a b =>
    rw [hm] at h
    simp [Result.andThen] at h
theorem NoEnter.unit {P : Program} (m : Sem Unit) : NoEnter P (do m; pure Next.skip) := by
  intro w x w' h
  rw [Sem.run_bind] at h
  cases hm : m.run P w with
  | ok v w1 =>
    rw [hm] at h
    simp only [Result.andThen_ok, Sem.run_pure] at h
    injection h with h1 h2
    subst h1
    exact ⟨fun _ _ e => (by cases e), fun _ _ e => (by cases e)⟩
  | halt a b =>
    rw [hm] at h
    simp [Result.andThen] at h
theorem NoEnter.pure_value {P : Program} (v : Value) : NoEnter P (pure (Next.value v)) := by
  intro w x w' h
  rw [Sem.run_pure] at h
  injection h with h1 h2
  subst h1
  exact ⟨fun _ _ e => (by cases e), fun _ _ e => (by cases e)⟩
def CalmOp (P : Program) (o : Oper) : Prop := (∀ c, o.op ≠ .defer c) ∧ ∀ ρ, NoEnter P (execOp ρ o)

section
variable {P : Program} {ops : Array Oper} {R : Act → World → Prop} {l n : Nat}
theorem opsIn_of_ops (hc : ∀ (i : Nat) o, ops[i]? = some o → CalmOp P o) : ∀ (L : List Nat) (a : Act) (w : World), wpOps P ops (fun e a w => e = .normal ∧ R a w) L a w → wpOpsIn (Fence.wide.inRound l) n P ops (fun e a w => e = .normal ∧ R a w) L a w
  | [], a, w, h => h
  | i :: rest, a, w, h => by
    rw [wpOpsIn_cons]
    unfold wpOps at h
    unfold wpOpIn
    cases ho : ops[i]? with
    | none =>
      rw [ho] at h
      exact opsIn_of_ops hc rest a w h
    | some o =>
      rw [ho] at h
      simp only at h ⊢
      obtain ⟨hd, hne⟩ := hc i o ho
      split
      · rename_i hw
        rw [if_pos hw] at h
        rcases h with h | ⟨_, a', w', e, _⟩
        · refine ⟨fun _ _ => trivial, ?_⟩
          rw [Oper.semAt_plain _ _ _ hd]
          have hn := hne a.eval w
          unfold Oper.wp at h
          cases hr : (execOp a.eval o).run P w with
          | ok x w1 =>
            rw [hr] at h
            obtain ⟨h1, h2⟩ := hn x w1 hr
            cases x with
            | value v => exact opsIn_of_ops hc rest _ _ h
            | skip => exact opsIn_of_ops hc rest _ _ h
            | defer d => exact opsIn_of_ops hc rest _ _ h
            | enter f args => exact absurd rfl (h1 f args)
            | row r args => exact absurd rfl (h2 r args)
            | _ => exact h.elim
          | halt b w1 =>
            rw [hr] at h
            cases b <;> first | exact h | exact h.elim
        · cases e
      · rename_i hw
        rw [if_neg hw] at h
        exact ⟨fun _ _ => trivial, opsIn_of_ops hc rest _ _ h⟩

/-- A REGION THAT DRAWS ITS ORDER AND CALLS NOTHING, IN A ROUND: as anywhere. -/
theorem wpIn_region_held {S : World → Prop} {id : Nat} {Q : Exit → Act → World → Prop} {a : Act} {w : World} (hm : P.follows .mixedOrders = true) (hc : ∀ (i : Nat) o, ops[i]? = some o → CalmOp P o) (hS : S w.drew)
    (hQ : ∀ a w, R a w → Q .normal a w)
    (h : S w.drew → wpAnyH P .any ops (fun e a w => e = .normal ∧ R a w) S ops.size (Array.replicate ops.size false) a w.drew) : (Code.region id ops true).wpIn (Fence.wide.inRound l) n P Q a w := by
  refine Code.wpIn_mono (Q := fun e a w => e = .normal ∧ R a w) (fun e a w hh => by obtain ⟨rfl, hr⟩ := hh; exact hQ a w hr) ?_
  refine wpIn_region_draw fun t => ?_
  refine opsIn_of_ops hc _ _ _ ?_
  simp only [Region.schedule, hm, Bool.true_or, if_true]
  exact wpAny_sound ops.size t _ a _ (wpAny_of_held _ _ _ _ (h hS))
end

def calmK : Op → Bool
  | .move _ => true
  | .assign _ => true
  | .load _ _ => true
  | .store _ _ _ => true
  | .indexAddr _ _ _ => true
  | .binOp _ _ _ _ _ => true
  | .call c => match c.callee with
    | .builtin .max => true
    | .builtin .len => true
    | _ => false
  | _ => false
theorem NoEnter.max {P : Program} (ats : Array TypeId) (t : TypeId) (cs : Array Bool) (args : Array Value) : NoEnter P (builtin .max ats t cs args) := by
  unfold builtin
  exact NoEnter.val _
theorem NoEnter.len {P : Program} (ats : Array TypeId) (t : TypeId) (cs : Array Bool) (args : Array Value) : NoEnter P (builtin .len ats t cs args) := by
  unfold builtin
  exact NoEnter.val _
theorem calm_of {P : Program} {o : Oper} (h : calmK o.op = true) : CalmOp P o := by
  refine ⟨fun c e => (by rw [e] at h; cases h), fun ρ => ?_⟩
  unfold execOp
  cases ho : o.op
  case call c =>
    rw [ho] at h
    obtain ⟨callee, args, ats⟩ := c
    cases callee with
    | builtin b =>
      cases b <;> first
        | (cases h; done)
        | (intro w x w' hr; simp only [resolve, Sem.run_bind, Sem.run_pure, Result.andThen_ok, invoke] at hr; exact NoEnter.max _ _ _ _ w x w' hr)
        | (intro w x w' hr; simp only [resolve, Sem.run_bind, Sem.run_pure, Result.andThen_ok, invoke] at hr; exact NoEnter.len _ _ _ _ w x w' hr)
    | _ => cases h
  all_goals first
    | exact NoEnter.pure_value _
    | exact NoEnter.val _
    | exact NoEnter.unit _
    | (rw [ho] at h; cases h)
theorem calm_all {P : Program} {ops : Array Oper} (h : ops.all (fun o => calmK o.op) = true) : ∀ (i : Nat) o, ops[i]? = some o → CalmOp P o := fun i o ho => by
  obtain ⟨hi, e⟩ := Array.getElem?_eq_some_iff.1 ho
  refine calm_of ?_
  rw [← e]
  exact Array.all_eq_true.1 h i hi

end Go.Proofs.Ythdbbppahloapaa
