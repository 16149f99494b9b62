/-
  A pure call may be taken first in a region that draws its order.
-/
import Derived.OrdersHeld
import Derived.Deep.QuietTactic
namespace Go.Proofs.YtbcgglkgdjafiaaDoor

section
variable {P : Program} {ops : Array Oper} {Q : Exit → Act → World → Prop} {md : Region.Mode} {S : World → Prop}

/-- from every world that meets S the operation is a call that hands back v in the world that it got -/
def PureC (P : Program) (ops : Array Oper) (S : World → Prop) (o : Oper) (v : Value) (a : Act) : Prop :=
  Region.wanted o (yielded ops a.tmps) = true ∧ ∀ w, S w → o.quietAt P a (fun w' => w' = w) w v
/-- the frame behind another operation: something is put into its slot -/
def Behind (o : Oper) (a a' : Act) : Prop := ∃ ds u, a' = Act.put { a with defers := ds } o.dst u

theorem PureC.behind {oi oj : Oper} {v : Value} {a a' : Act} (hs : ∀ cs b, oi.op ≠ .select cs b) (hap : oi.apart ops oj = true) (h : PureC P ops S oi v a) (hb : Behind oj a a') : PureC P ops S oi v a' := by
  obtain ⟨ds, u, rfl⟩ := hb
  have h3 := (Oper.apart_spec hap).2.2
  refine ⟨(wanted_put oi _ oj.dst u h3).trans h.1, fun w hw => ?_⟩
  have := h.2 w hw
  unfold Oper.quietAt at this ⊢
  rw [execOp_put oi hs _ oj.dst u h3]
  exact this
theorem PureC.op {i : Nat} {o : Oper} {v : Value} {a : Act} (hi : ops[i]? = some o) (hy : PureC P ops S o v a) {K : Act → World → Prop} {w : World} (hS : S w) (h : K (a.put o.dst v) w) : wpOp P ops Q i K a w := by
  unfold wpOp
  rw [hi]
  dsimp only
  rw [if_pos hy.1]
  exact .inl (Oper.wp_of_quiet (C := fun w' => w' = w) (K := fun a' => a' = a.put o.dst v) rfl (fun a' w' e1 e2 => by rw [e1, e2]; exact h) ⟨v, fun w' e => by subst e; exact hy.2 _ hS, rfl⟩)
theorem upon_apart {oj : Oper} {dst : Option Tmp} {v : Value} {a : Act} {K : Act → World → Prop} (h2 : ∀ d, dst = some d → oj.dst ≠ some d) (hQ : ∀ c a w, Q (.panic c) (a.put dst v) w → Q (.panic c) a w)
    (r : Result Next) (h : oj.upon P (a.put dst v) K Q r) : oj.upon P a (fun a' w' => Behind oj a a' ∧ K (a'.put dst v) w') Q r := by
  have on : ∀ (ds : List Deferred) (u : Value) (w' : World), K (({ a with defers := ds } : Act).put dst v |>.put oj.dst u) w' → Behind oj a (Act.put { a with defers := ds } oj.dst u) ∧ K ((Act.put { a with defers := ds } oj.dst u).put dst v) w' := fun ds u w' hk => ⟨⟨ds, u, rfl⟩, by rw [← Act.put_comm _ v u h2]; exact hk⟩
  have eds : ({ a with defers := a.defers } : Act) = a := rfl
  match r, h with
  | .ok (.value u) w', h => exact on a.defers u w' h
  | .ok .skip w', h => exact on a.defers undef w' h
  | .ok (.defer d) w', h =>
    refine on (d :: a.defers) undef w' ?_
    rw [← Act.put_defers]
    exact h
  | .ok (.enter f args) w', h =>
    refine Calls.mono h fun e w'' he => ?_
    match e, he with
    | .returned u, he => exact on a.defers u w'' he
    | .panicked c, he => exact hQ _ _ _ he
    | .outgrown, he => exact he
  | .ok (.row row args) w', h => exact Rows.mono h fun u w'' he => on a.defers u w'' he
  | .halt (.panic u) w', h => exact hQ _ _ _ h
theorem op_apart {j : Nat} {oi oj : Oper} {v : Value} (hj : ops[j]? = some oj) (hap : oi.apart ops oj = true) (hsj : ∀ cs b, oj.op ≠ .select cs b)
    (hQ : ∀ c a w, Q (.panic c) (a.put oi.dst v) w → Q (.panic c) a w) {K : Act → World → Prop} {a : Act} {w : World}
    (h : wpOp P ops Q j K (a.put oi.dst v) w) : wpOp P ops Q j (fun a' w' => Behind oj a a' ∧ K (a'.put oi.dst v) w') a w := by
  obtain ⟨h1, h2, _⟩ := Oper.apart_spec hap
  unfold wpOp at h ⊢
  rw [hj] at h ⊢
  dsimp only at h ⊢
  rw [wanted_put oj a oi.dst v h1] at h
  by_cases hw : Region.wanted oj (yielded ops a.tmps) = true
  · rw [if_pos hw] at h ⊢
    unfold Oper.wp Oper.asks at *
    rw [execOp_put oj hsj a oi.dst v h1] at h
    exact h.imp (upon_apart h2 hQ _) id
  · rw [if_neg hw] at h ⊢
    exact ⟨⟨a.defers, undef, rfl⟩, by rw [← Act.put_comm a v undef h2]; exact h⟩

theorem wpAnyH_pure {i : Nat} {oi : Oper} {v : Value} (hi : ops[i]? = some oi) (hsel : Region.noSelect ops = true) (hQ : ∀ c a w, Q (.panic c) (a.put oi.dst v) w → Q (.panic c) a w) :
    ∀ (fuel : Nat) (listed : Array Bool) (a : Act) (w : World),
      (∀ j oj, ops[j]? = some oj → j ≠ i → listed.getD j true = false → (∀ e ∈ oj.after, Region.binds md e = true → e.on ≠ i) → oi.apart ops oj = true) →
      i ∈ Region.ready md ops listed → PureC P ops S oi v a → S w →
      wpAnyH P md ops Q S fuel (listed.setIfInBounds i true) (a.put oi.dst v) w → wpAnyH P md ops Q S (fuel + 1) listed a w := by
  intro fuel
  induction fuel with
  | zero =>
    intro listed a w _ hr hy hS H
    refine ⟨fun e => (by rw [e] at hr; exact absurd hr List.not_mem_nil), fun j hj => ?_⟩
    rcases Decidable.em (j = i) with rfl | hne
    · exact hy.op hi hS ⟨hS, H⟩
    · have h9 := ready_mono hj hne
      rw [H.1] at h9
      exact absurd h9 List.not_mem_nil
  | succ fuel ih =>
    intro listed a w hfree hr hy hS H
    refine ⟨fun e => (by rw [e] at hr; exact absurd hr List.not_mem_nil), fun j hj => ?_⟩
    rcases Decidable.em (j = i) with rfl | hne
    · exact hy.op hi hS ⟨hS, H⟩
    obtain ⟨hun, oj, hoj, hall⟩ := mem_ready.1 hj
    have hun0 := (mem_ready.1 hr).1
    have hno : ∀ e ∈ oj.after, Region.binds md e = true → e.on ≠ i := by
      intro e he hb heq
      have h1 := hall e he hb
      rw [heq] at h1
      rw [Array.getD_eq_getD_getElem?] at h1 hun0
      cases hc : listed[i]? with
      | none => rw [hc] at hun0; cases hun0
      | some x => rw [hc] at h1 hun0; exact absurd (h1.symm.trans hun0) (by simp)
    have hap := hfree j oj hoj hne hun hno
    refine wpOp_mono (fun a' w' h => ?_) (op_apart hoj hap (Region.noSelect_spec hsel j oj · · hoj) hQ (H.2 j (ready_mono hj hne)))
    refine ⟨h.2.1, ih _ a' w' (fun k ok hk hki hku hkn => hfree k ok hk hki ?_ hkn) (ready_mono hr (Ne.symm hne)) (hy.behind (Region.noSelect_spec hsel i oi · · hi) hap h.1) h.2.1 ?_⟩
    · rcases Decidable.em (j = k) with rfl | hjk
      · exact hun
      · rwa [getD_set_ne true hjk] at hku
    · rw [Array.setIfInBounds_comm _ _ hne]
      exact h.2.2

/-- a pure call that may come up is taken first -/
theorem wpAnyH_call {i : Nat} {oi : Oper} {v : Value} {fuel : Nat} {listed : Array Bool} {a : Act} {w : World} (hi : ops[i]? = some oi)
    (hs : Region.noSelect ops = true) (hf : Region.free md ops listed i = true) (hr : (Region.ready md ops listed).contains i = true)
    (hQ : ∀ c a w, Q (.panic c) (a.put oi.dst v) w → Q (.panic c) a w) (hy : PureC P ops S oi v a) (hS : S w)
    (h : wpAnyH P md ops Q S fuel (listed.setIfInBounds i true) (a.put oi.dst v) w) : wpAnyH P md ops Q S (fuel + 1) listed a w :=
  wpAnyH_pure hi hs hQ fuel listed a w (Region.free_spec hi hf) (by simpa using hr) hy hS h
end

end Go.Proofs.YtbcgglkgdjafiaaDoor
