/-
  Mathematics of plans: the least loss behind a row, the first plan with the least loss, the plan that follows another one. Nothing here speaks of the program.
-/
import Derived.Test.YtodboccadccpfaaDoorPlnM
import Derived.Test.YtodboccadccpfaaDoorSrvM
namespace Go.Proofs.YtodboccadccpfaaDoor

/-- different indexes of the first n -/
def rwP (n : Nat) (r : List Int) : Prop := r.Nodup ∧ ∀ i ∈ r, 0 ≤ i ∧ i < (n : Int)
theorem rwP_nil (n : Nat) : rwP n [] := ⟨List.nodup_nil, by simp⟩
theorem rwP_snoc {n : Nat} {r : List Int} {k : Nat} (h : rwP n r) (hk : k < n) (hm : (k : Int) ∉ r) : rwP n (r ++ [(k : Int)]) := by
  refine ⟨List.nodup_append.2 ⟨h.1, by simp, ?_⟩, ?_⟩
  · intro a ha b hb e
    simp at hb; subst hb; subst e
    exact hm ha
  · intro a ha
    rcases List.mem_append.1 ha with h1 | h1
    · exact h.2 a h1
    · simp at h1; omega
theorem free_one {n : Nat} {r : List Int} (h : r.length < n) : ∃ k : Nat, k < n ∧ (k : Int) ∉ r := by
  apply Classical.byContradiction
  intro hno
  have hall : ∀ x ∈ ((List.range n).map fun (i : Nat) => (i : Int)), x ∈ r ++ [-1] := by
    intro x hx
    obtain ⟨i, hi, rfl⟩ := List.mem_map.1 hx
    apply Classical.byContradiction
    intro h2
    exact hno ⟨i, List.mem_range.1 hi, fun h3 => h2 (by simp [h3])⟩
  have h4 := (pig (rangeI_nodup n) hall (by simp; omega)).2 (-1) (by simp)
  obtain ⟨i, _, hi⟩ := List.mem_map.1 h4
  omega
theorem fromP_ne {n : Nat} : ∀ (j : Nat) (r : List Int), r.length + j = n → ∃ x, x ∈ fromP n r
  | 0, r, h => ⟨r, by rw [fromP_end (by omega)]; simp⟩
  | j + 1, r, h => by
    obtain ⟨k, hk, hm⟩ := free_one (n := n) (r := r) (by omega)
    obtain ⟨x, hx⟩ := fromP_ne (n := n) j (r ++ [(k : Int)]) (by simp; omega)
    refine ⟨x, ?_⟩
    rw [fromP_on (by omega), List.mem_flatMap]
    exact ⟨_, ext_mem.2 ⟨k, hk, pf_true.2 hm, rfl⟩, hx⟩

/-- the least loss behind a row -/
def lstP (L : List UInt8) (J : List Jbs) (r : List Int) : Int := lwv (costP L J) (costP L J r) (fromP J.length r)
/-- .. of the plans whose next index is one of the first k -/
def lstTo (L : List UInt8) (J : List Jbs) (r : List Int) (k : Nat) : Int := lwv (costP L J) (costP L J r) (preP J.length r k)
/-- the loss of the repair that comes next -/
def nxtP (L : List UInt8) (J : List Jbs) (r : List Int) (k : Nat) : Int := (jbsAt J k).g * dyI L (wkP J r + (jbsAt J k).d)
theorem cost_next (L : List UInt8) (J : List Jbs) (r : List Int) (k : Nat) : costP L J (r ++ [(k : Int)]) = costP L J r + nxtP L J r k := by
  rw [costP_snoc, Int.toNat_natCast]; rfl
theorem lstP_end {L : List UInt8} {J : List Jbs} {r : List Int} (h : J.length ≤ r.length) : lstP L J r = 0 := by
  unfold lstP
  rw [fromP_end h, lwv_some (x := r) rfl]
  omega
theorem lstTo_zero (L : List UInt8) (J : List Jbs) (r : List Int) : lstTo L J r 0 = -1 := rfl
theorem lstTo_all {L : List UInt8} {J : List Jbs} {r : List Int} (h : r.length < J.length) : lstTo L J r J.length = lstP L J r := by unfold lstTo lstP; rw [preP_all h]
theorem lstTo_no {L : List UInt8} {J : List Jbs} {r : List Int} {k : Nat} (h : (k : Int) ∈ r) : lstTo L J r (k + 1) = lstTo L J r k := by unfold lstTo; rw [preP_no h]
section
variable {L : List UInt8} {J : List Jbs} {r : List Int}
theorem lstP_bd (hL : fcB L = true) (hJ : jbB J = true) (hr : r.length ≤ J.length) : 0 ≤ lstP L J r ∧ lstP L J r ≤ 1620 := by
  have h6 := (jbB_true.1 hJ).1
  unfold lstP
  rcases lwv_case (c := costP L J) (base := costP L J r) (l := fromP J.length r) (fun x hx => fromP_ge hL hJ hr hx) with ⟨h0, _⟩ | ⟨x, h1, h, h3⟩
  · obtain ⟨x, hx⟩ := fromP_ne (n := J.length) (J.length - r.length) r (by omega)
    rw [bst_nil h0] at hx
    simp at hx
  · rw [h]
    obtain ⟨t, e, ht⟩ := fromP_pre (J.length - r.length) r x (by omega) (bst_mem h1)
    have h4 := costT_bd hL hJ x J.length
    have h5 : 0 ≤ costP L J r := (costT_bd hL hJ r r.length).1
    have h7 : x.length = J.length := by rw [e]; simp [ht]; omega
    have h8 : costP L J x = costT L J x J.length := by unfold costP; rw [h7]
    omega
theorem nxt_bd (hL : fcB L = true) (hJ : jbB J = true) (k : Nat) : 0 ≤ nxtP L J r k ∧ nxtP L J r k ≤ 270 := by
  have h2 := jbB_any hJ k
  have h3 := dyI_bd hL (wkP J r + (jbsAt J k).d)
  exact mul_bd h2.2.1 h2.2.2 h3.1 h3.2
theorem lstTo_yes (hL : fcB L = true) (hJ : jbB J = true) {k : Nat} (hr : r.length < J.length) (hk : k < J.length) (h : (k : Int) ∉ r) :
    lstTo L J r (k + 1) = if lstTo L J r k < 0 ∨ nxtP L J r k + lstP L J (r ++ [(k : Int)]) < lstTo L J r k then nxtP L J r k + lstP L J (r ++ [(k : Int)]) else lstTo L J r k := by
  have h2 := (lstP_bd (r := r ++ [(k : Int)]) hL hJ (by simp; omega)).1
  have h3 := cost_next L J r k
  unfold lstTo lstP at *
  rw [preP_yes h, lwv_step (base' := costP L J (r ++ [(k : Int)])) (fun x hx => preP_ge hL hJ hr (by omega) hx) (fun x hx => fromP_ge hL hJ (by simp; omega) hx)]
  rw [show costP L J (r ++ [(k : Int)]) - costP L J r = nxtP L J r k by omega]
  simp only [h2, true_and]
theorem lstTo_bd (hL : fcB L = true) (hJ : jbB J = true) (hr : r.length < J.length) : ∀ k, k ≤ J.length → -1 ≤ lstTo L J r k ∧ lstTo L J r k ≤ 1890
  | 0, _ => by rw [lstTo_zero]; omega
  | k + 1, hk => by
    have ih := lstTo_bd hL hJ hr k (by omega)
    by_cases hm : (k : Int) ∈ r
    · rw [lstTo_no hm]; exact ih
    · have h1 := lstP_bd (r := r ++ [(k : Int)]) hL hJ (by simp; omega)
      have h2 := nxt_bd (r := r) hL hJ k
      rw [lstTo_yes hL hJ hr (by omega) hm]
      split <;> omega

theorem lstP_some {x : List Int} (h : bst (costP L J) (fromP J.length r) = some x) : lstP L J r = costP L J x - costP L J r := lwv_some h
/-- the least index that leads to the least loss leads to the first plan that loses least -/
theorem pickP_yes {x : List Int} (hr : r.length < J.length) (hx : bst (costP L J) (fromP J.length r) = some x) {k : Nat} (hk : k < J.length) (hp : ∀ z ∈ preP J.length r k, costP L J x < costP L J z) (hm : (k : Int) ∉ r)
    (he : nxtP L J r k + lstP L J (r ++ [(k : Int)]) = lstP L J r) : bst (costP L J) (fromP J.length (r ++ [(k : Int)])) = some x := by
  obtain ⟨post, e⟩ := preP_rest (n := J.length) (r := r) (J.length - (k + 1)) (k + 1) (by omega)
  rw [preP_all hr, preP_yes hm, List.append_assoc] at e
  cases hb : bst (costP L J) (fromP J.length (r ++ [(k : Int)])) with
  | none =>
    obtain ⟨y, hy⟩ := fromP_ne (n := J.length) (J.length - (r.length + 1)) (r ++ [(k : Int)]) (by simp; omega)
    rw [bst_nil hb] at hy
    simp at hy
  | some y =>
    have h3 := cost_next L J r k
    rw [lstP_some hb, lstP_some hx] at he
    have hx' := hx
    rw [e] at hx'
    rw [first_yes hx' hp hb (by omega)]
theorem pickP_no {x : List Int} (hr : r.length < J.length) (hx : bst (costP L J) (fromP J.length r) = some x) {k : Nat} (hk : k < J.length) (hp : ∀ z ∈ preP J.length r k, costP L J x < costP L J z)
    (h : (k : Int) ∈ r ∨ nxtP L J r k + lstP L J (r ++ [(k : Int)]) ≠ lstP L J r) : ∀ z ∈ preP J.length r (k + 1), costP L J x < costP L J z := by
  by_cases hm : (k : Int) ∈ r
  · rw [preP_no hm]; exact hp
  · obtain ⟨post, e⟩ := preP_rest (n := J.length) (r := r) (J.length - (k + 1)) (k + 1) (by omega)
    rw [preP_all hr, preP_yes hm, List.append_assoc] at e
    have hx' := hx
    rw [e] at hx'
    rw [preP_yes hm]
    refine first_no hx' hp ?_
    intro y hb hc
    have h3 := cost_next L J r k
    rw [lstP_some hb, lstP_some hx] at h
    rcases h with h | h
    · exact hm h
    · exact h (by omega)
theorem pickP_some {x : List Int} (hr : r.length < J.length) (hx : bst (costP L J) (fromP J.length r) = some x) (hp : ∀ z ∈ preP J.length r J.length, costP L J x < costP L J z) : False := by
  rw [preP_all hr] at hp
  have := hp x (bst_mem hx)
  omega
theorem pickP_end {x : List Int} (hr : J.length ≤ r.length) (hx : bst (costP L J) (fromP J.length r) = some x) : r = x := by
  rw [fromP_end hr] at hx
  simpa [bst, mrg] using hx
end

/-- THE BEST PLAN -/
def bsP (L : List UInt8) (J : List Jbs) : List Int := if timeB L J then (bst (costP L J) (allP J.length)).getD [] else []
theorem bp_some (L : List UInt8) (J : List Jbs) : ∃ x, bst (costP L J) (allP J.length) = some x := bst_some (allP_ne _)
theorem bp_val {L : List UInt8} {J : List Jbs} (h : timeB L J = true) {x : List Int} (hx : bst (costP L J) (allP J.length) = some x) : bsP L J = x := by unfold bsP; rw [if_pos h, hx]; rfl
theorem bp_loss {L : List UInt8} {J : List Jbs} (h : timeB L J = true) : bst (lossV L J) (allP J.length) = bst (costP L J) (allP J.length) := by
  have h6 := (jbB_true.1 (timeB_true.1 h).2.1).1
  have key : ∀ x ∈ allP J.length, lossV L J x = costP L J x := fun x hx => by
    obtain ⟨h1, h2⟩ := (allP_mem (by omega)).1 hx
    exact lossV_cost (planB_true.2 ⟨h, h1, h2⟩)
  exact bst_congr fun x hx y hy => by rw [key x hx, key y hy]
theorem bp_len (L : List UInt8) (J : List Jbs) (hJ : J.length ≤ 10) : (bsP L J).length ≤ J.length := by
  unfold bsP
  split
  · obtain ⟨x, hx⟩ := bp_some L J
    rw [hx]
    have := ((allP_mem hJ).1 (bst_mem hx)).2
    simp only [Option.getD_some]; omega
  · simp

/-! ### the plan that follows -/
/-- the last place, of those below k, whose index is less than the next one -/
def plcP (p : List Int) : Nat → Option Nat
  | 0 => none
  | k + 1 => if p[k]?.getD 0 < p[k + 1]?.getD 0 then some k else plcP p k
/-- the first place of a list with more than x -/
def gtP (x : Int) : List Int → Nat
  | [] => 0
  | y :: t => if x < y then 0 else gtP x t + 1
def nextP (p : List Int) : Option (List Int) :=
  match plcP p (p.length - 1) with
  | none => none
  | some a => some (p.take a ++ ((p.drop (a + 1)).reverse[gtP (p[a]?.getD 0) (p.drop (a + 1)).reverse]?.getD 0) :: (p.drop (a + 1)).reverse.set (gtP (p[a]?.getD 0) (p.drop (a + 1)).reverse) (p[a]?.getD 0))
def chainB : List (List Int) → Bool
  | [] => true
  | [p] => nextP p == none
  | p :: q :: t => (nextP p == some q) && chainB (q :: t)
def firstP (n : Nat) : List Int := (List.range n).map fun (i : Nat) => (i : Int)
theorem chain_at : ∀ (a : List (List Int)) {p : List Int} {b : List (List Int)}, chainB (a ++ p :: b) = true → nextP p = b.head?
  | [], p, [], h => by simpa [chainB] using h
  | [], p, q :: t, h => by
    rw [List.nil_append, chainB, Bool.and_eq_true] at h
    simpa using h.1
  | [c], p, b, h => by
    rw [List.singleton_append, chainB, Bool.and_eq_true] at h
    exact chain_at [] h.2
  | c :: d :: a, p, b, h => by
    rw [List.cons_append, List.cons_append, chainB, Bool.and_eq_true] at h
    exact chain_at (d :: a) h.2
set_option maxRecDepth 100000 in
theorem chain_all : ∀ n : Fin 7, chainB (allP n.val) = true := by decide +kernel
set_option maxRecDepth 100000 in
theorem first_all : ∀ n : Fin 7, (allP n.val).head? = some (firstP n.val) := by decide +kernel
theorem plans_start {n : Nat} (h : n ≤ 6) : ∃ rest, allP n = firstP n :: rest := by
  have := first_all ⟨n, by omega⟩
  cases ha : allP n with
  | nil => exact absurd ha (allP_ne n)
  | cons x t =>
    simp only [ha, List.head?_cons, Option.some.injEq] at this
    exact ⟨t, by rw [this]⟩
theorem plans_next {n : Nat} (h : n ≤ 6) {a b : List (List Int)} {p : List Int} (e : allP n = a ++ p :: b) : nextP p = b.head? :=
  chain_at a (by rw [← e]; exact chain_all ⟨n, by omega⟩)

end Go.Proofs.YtodboccadccpfaaDoor
