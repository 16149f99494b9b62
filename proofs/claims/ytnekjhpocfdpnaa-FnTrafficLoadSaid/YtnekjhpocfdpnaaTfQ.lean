/-
  freeWay of the program: ways come by the number of their lines and then by their stations.
-/
import Derived.Test.YtnekjhpocfdpnaaTfG
import Derived.Test.YtnekjhpocfdpnaaQue
import Derived.Test.YtnekjhpocfdpnaaChpK
namespace Go.Proofs.Ytnekjhpocfdpnaa
open Go.RowKit Go.Maps

/-! ### what is reached -/
def BAt (W : World) (b : Nat) (R : List Bool) : Prop := R.length = 6 ∧ W.heap[b]? = some (.cells (R.map Value.bool).toArray 71 (0, 0))
section
variable {W W' : World} {b : Nat} {R : List Bool}
theorem BAt.lt (h : BAt W b R) : b < W.heap.size := (Array.getElem?_eq_some_iff.1 h.2).1
theorem BAt.cell (h : BAt W b R) {j : Nat} (hj : j < 6) : W.cell? ⟨b, j, none⟩ = some (.bool (rAt R (j : Int))) := by
  rw [cell_of_row W b j _ _ _ h.2]
  have : j < R.length := by rw [h.1]; exact hj
  simp [rAt, this]
theorem BAt.frozen (h : BAt W b R) (o : Nat) : W.frozen? ⟨b, o, none⟩ = false := by simp [World.frozen?, h.2]
theorem BAt.kept (h : BAt W b R) {row : Option Nat} (hg : W.grownBy W' row) (hne : some b ≠ row) : BAt W' b R := ⟨h.1, (hg.block b h.lt hne).trans h.2⟩
theorem BAt.below (h : BAt W b R) (hb : Below W.heap.size W W') : BAt W' b R := h.kept (grown_of_below hb none) (by simp)
theorem BAt.set (h : BAt W b R) (j : Nat) (v : Bool) : BAt (W.setCell ⟨b, j, none⟩ (.bool v)) b (R.set j v) := by
  refine ⟨by simpa using h.1, ?_⟩
  have := block_set h.2 j (.bool v)
  rw [this]
  congr 2
  apply Array.ext'
  rw [Array.toList_setIfInBounds]
  simp [List.map_set]
end
theorem BAt.made (W : World) : BAt (W.alloc (.cells #[.bool false, .bool false, .bool false, .bool false, .bool false, .bool false] 71)) W.heap.size (List.replicate 6 false) :=
  ⟨rfl, heap_alloc_new W _⟩
/-- how many are not reached, read off the world -/
def isNo : Value → Bool
  | .bool b => !b
  | _ => false
def cntF (W : World) (b : Nat) : Nat :=
  match W.heap[b]? with
  | some (.cells cur _ _) => cur.toList.countP isNo
  | _ => 0
theorem cntF_eq {W : World} {b : Nat} {R : List Bool} (h : BAt W b R) : cntF W b = unR R := by
  unfold cntF
  rw [h.2]
  show ((R.map Value.bool).countP isNo) = R.count false
  have : ∀ l : List Bool, (l.map Value.bool).countP isNo = l.count false := by
    intro l
    induction l with
    | nil => rfl
    | cons x t ih =>
      rw [List.map_cons, List.countP_cons, List.count_cons, ih]
      cases x <;> rfl
  exact this R
def lenV : Value → Nat
  | .slice _ n _ => n
  | _ => 0

/-! ### ways in blocks of their own -/
def WyRd (own : Nat → Prop) (W : World) (v : Value) (z : List Int) : Prop :=
  ∃ b off c, v = .slice (some ⟨b, off, none⟩) z.length c ∧ z.length ≤ c ∧ c ≤ maxLen ∧ own b ∧ b < W.heap.size ∧ ∀ j, j < z.length → W.cell? ⟨b, off + j, none⟩ = some (.int .i64 (z[j]?.getD 0))
section
variable {own own' : Nat → Prop} {W W' : World} {v : Value} {z : List Int}
theorem WyRd.kept (h : WyRd own W v z) {row : Option Nat} (hg : W.grownBy W' row) (hr : ∀ r, row = some r → ¬ own r) : WyRd own W' v z := by
  obtain ⟨b, off, c, e, h1, h2, ho, hl, hk⟩ := h
  have hb : W'.heap[b]? = W.heap[b]? := hg.block b hl (fun e2 => hr b e2.symm ho)
  exact ⟨b, off, c, e, h1, h2, ho, Nat.lt_of_lt_of_le hl hg.size, fun j hj => by rw [World.cell?_of_block (a := ⟨b, off + j, none⟩) hb]; exact hk j hj⟩
theorem WyRd.below (h : WyRd own W v z) (hb : Below W.heap.size W W') : WyRd own W' v z := h.kept (grown_of_below hb none) (by simp)
theorem WyRd.relabel (h : WyRd own W v z) (ho : ∀ g, g < W.heap.size → own g → own' g) : WyRd own' W v z := by
  obtain ⟨b, off, c, e, h1, h2, hg, hl, hk⟩ := h
  exact ⟨b, off, c, e, h1, h2, ho b hl hg, hl, hk⟩
theorem WyRd.of_own {base : Nat} {n : Nat} (h : W.ownsRow base 3 1 v (n + 1) (z.map (Value.int .i64))) (hz : z.length = n + 1) (ho : ∀ g, base ≤ g → own g) : WyRd own W v z := by
  have hlt := h.lt
  obtain ⟨g, cap, rfl⟩ := own_succ h
  have hg := hlt g rfl
  have h2 := h
  rcases h.2 with ⟨h3, _⟩ | ⟨g', cap', cur, e, hg', hgg, hn, hm, hs, ht⟩
  · cases h3
  · injection e with e1 e2 e3
    injection e1 with e1
    injection e1 with e1 _ _
    subst e1; subst e3
    refine ⟨g, 0, cap, by rw [hz], by omega, hm, ho g hg', hg.2, fun j hj => ?_⟩
    rw [Nat.zero_add]
    have := h2.cells (g := g) rfl j (.int .i64 (z[j]?.getD 0)) (by simp [hj])
    rwa [show (⟨g, 0, none⟩ : Addr).add j = ⟨g, j, none⟩ by unfold Addr.add; split <;> simp_all] at this
end
/-- THE QUEUE OF WAYS: its blocks are labelled 0, those of the ways 1 -/
def QW (ow : Nat → Nat) (W : World) (v : Value) (Q : List (List Int)) : Prop :=
  ∃ ks, QAt (fun g => ow g = 0) W v ks ∧ ks.length = Q.length ∧ ∀ (j : Nat) (z : List Int), Q[j]? = some z → ∃ u, ks[j]? = some u ∧ WyRd (fun g => ow g = 1) W u z
section
variable {ow ow' : Nat → Nat} {W W' : World} {v : Value} {Q : List (List Int)}
theorem QW.kept (h : QW ow W v Q) {row : Option Nat} (hg : W.grownBy W' row) (hr : ∀ r, row = some r → ow r = 2) : QW ow W' v Q := by
  obtain ⟨ks, h1, h2, h3⟩ := h
  refine ⟨ks, h1.kept hg (fun r e h => by have := hr r e; omega), h2, fun j z hz => ?_⟩
  obtain ⟨u, hu, hw⟩ := h3 j z hz
  exact ⟨u, hu, hw.kept hg (fun r e h => by have := hr r e; omega)⟩
theorem QW.below (h : QW ow W v Q) (hb : Below W.heap.size W W') : QW ow W' v Q := h.kept (grown_of_below hb none) (by simp)
theorem QW.len (h : QW ow W v Q) : lenV v = Q.length := by
  obtain ⟨ks, ⟨A, c, rfl, _⟩, h2, _⟩ := h
  exact h2
theorem QW.first {p : List Int} (h : QW ow W v (p :: Q)) : ∃ g o c u, v = .slice (some ⟨g, o, none⟩) (Q.length + 1) c ∧ Q.length + 1 ≤ c ∧ c ≤ maxLen ∧ W.cell? ⟨g, o, none⟩ = some u ∧ WyRd (fun g => ow g = 1) W u p ∧
    QW ow W (.slice (some ⟨g, o + (if c = 1 then 0 else 1), none⟩) Q.length (c - 1)) Q := by
  obtain ⟨ks, h1, h2, h3⟩ := h
  cases ks with
  | nil => simp at h2
  | cons k ks =>
    obtain ⟨u, hu, hw⟩ := h3 0 p rfl
    simp at hu
    subst hu
    have hl : ks.length = Q.length := by simpa using h2
    obtain ⟨g, o, c, e, h4, h5, _, _, h6⟩ := h1.form (by simp)
    simp only [List.length_cons, hl] at e h4
    have h7 := h6 0 k rfl
    rw [Nat.add_zero] at h7
    rw [e] at h1
    have h8 := h1.drop
    rw [hl] at h8
    exact ⟨g, o, c, k, e, h4, h5, h7, hw, ks, h8, hl, fun j z hz => h3 (j + 1) z (by simpa using hz)⟩
/-- one way more: the world in which it was made, then that in which it was appended -/
theorem QW.more {S : Nat} {W2 : World} {v' u : Value} {z : List Int} {ks : List Value} (hl : ks.length = Q.length)
    (hS : S ≤ W.heap.size) (hB : ∀ (j : Nat) (y : List Int), Q[j]? = some y → ∃ u, ks[j]? = some u ∧ WyRd (fun g => ow g = 1 ∧ g < S) W u y) (hz : WyRd (fun g => S ≤ g) W u z)
    (hnew : QAt (fun g => (ow g = 0 ∧ g < S) ∨ W.heap.size ≤ g) W2 v' (ks ++ [u])) (hg : ∃ row, W.grownBy W2 row ∧ ∀ r, row = some r → ow r = 0 ∧ r < S) :
    QW (owAt (owAt ow S 1) W.heap.size 0) W2 v' (Q ++ [z]) := by
  obtain ⟨row, hg, hr⟩ := hg
  refine ⟨ks ++ [u], hnew.relabel (fun g _ h => ?_), by simp [hl], fun j y hy => ?_⟩
  · unfold owAt
    rcases h with ⟨h4, h5⟩ | h4
    · rw [if_neg (by omega), if_neg (by omega)]; exact h4
    · rw [if_pos h4]
  · by_cases hj : j < Q.length
    · rw [List.getElem?_append_left hj] at hy
      obtain ⟨x, hx, hw⟩ := hB j y hy
      refine ⟨x, by rw [List.getElem?_append_left (by omega)]; exact hx, ?_⟩
      have h5 : WyRd (fun g => ow g = 1 ∧ g < S) W2 x y := hw.kept hg (fun r e h => by have := hr r e; omega)
      refine h5.relabel (fun g _ h => ?_)
      unfold owAt
      rw [if_neg (by omega), if_neg (by omega)]; exact h.1
    · have hj2 : j = Q.length := by
        have := (List.getElem?_eq_some_iff.1 hy).1
        simp at this; omega
      subst hj2
      rw [List.getElem?_append_right (by omega), Nat.sub_self] at hy
      simp at hy
      subst hy
      refine ⟨u, by rw [← hl]; simp, ?_⟩
      have h5 : WyRd (fun g => S ≤ g ∧ g < W.heap.size) W u z := by
        obtain ⟨b, off, c, e, h6, h7, h8, h9, h10⟩ := hz
        exact ⟨b, off, c, e, h6, h7, ⟨h8, h9⟩, h9, h10⟩
      have h6 : WyRd (fun g => S ≤ g ∧ g < W.heap.size) W2 u z := h5.kept hg (fun r e h => by have := hr r e; omega)
      refine h6.relabel (fun g _ h => ?_)
      unfold owAt
      rw [if_neg (by omega), if_pos h.1]
end

end Go.Proofs.Ytnekjhpocfdpnaa
