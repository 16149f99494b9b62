/-
  append to an own slice: the answer lies where it lay, or in a new block. And a slice of own slices: each in blocks of its own.
-/
import Derived.Test.YtnekjhpocfdpnaaStkA0
namespace Go.Proofs.Ytnekjhpocfdpnaa
open Go.RowKit

theorem one_new (w : World) (t : TypeId) (x : Value) : ∀ j u, [x][j]? = some u → (w.alloc (.cells #[x] t)).cell? ((⟨w.heap.size, 0, none⟩ : Addr).add j) = some u := by
  intro j u hu
  cases j with
  | zero =>
    simp at hu
    subst hu
    have h : (w.alloc (.cells #[x] t)).heap[w.heap.size]? = some (.cells #[x] t) := heap_alloc_new w _
    rw [show (⟨w.heap.size, 0, none⟩ : Addr).add 0 = ⟨w.heap.size, 0, none⟩ from rfl]
    exact cell_of_row _ _ 0 #[x] t (0, 0) h
  | succ j => simp at hu

theorem own_succ {W : World} {base : Nat} {e : TypeId} {size : Nat} {v : Value} {k : Nat} {xs : List Value} (h : W.ownsRow base e size v (k + 1) xs) : ∃ g cap, v = .slice (some ⟨g, 0, none⟩) (k + 1) cap := by
  rcases h.2 with ⟨_, h0⟩ | ⟨g, cap, cur, e, _⟩
  · omega
  · exact ⟨g, cap, e⟩

/-! ### blocks that belong to somebody -/

/-- THE VALUE's BLOCK, if it has one, BELONGS TO k -/
def Lab (ow : Nat → Nat) (k : Nat) (v : Value) : Prop := ∀ g, v.ownBlock = some g → ow g = k
/-- from B on, all blocks belong to k -/
def owAt (ow : Nat → Nat) (B k : Nat) : Nat → Nat := fun g => if B ≤ g then k else ow g
theorem Lab.at_old {ow : Nat → Nat} {k j B : Nat} {v : Value} (h : Lab ow k v) (hb : ∀ g, v.ownBlock = some g → g < B) : Lab (owAt ow B j) k v := fun g hg => by
  unfold owAt
  rw [if_neg (by have := hb g hg; omega)]
  exact h g hg
theorem Lab.at_new {ow : Nat → Nat} {k B : Nat} {v v' : Value} (h : Lab ow k v) (hn : ∀ g, v'.ownBlock = some g → v.ownBlock = some g ∨ B ≤ g) : Lab (owAt ow B k) k v' := fun g hg => by
  unfold owAt
  split
  · rfl
  · rcases hn g hg with h1 | h1
    · exact h g h1
    · omega
theorem Lab.nil (ow : Nat → Nat) (k : Nat) : Lab ow k (.slice none 0 0) := fun g h => by simp [Value.ownBlock] at h
theorem Lab.far {ow : Nat → Nat} {j k : Nat} {v v' : Value} (h : Lab ow j v) (h' : Lab ow k v') (hne : j ≠ k) : v.ownBlock = none ∨ v.ownBlock ≠ v'.ownBlock := by
  cases e : v.ownBlock with
  | none => exact .inl rfl
  | some g => exact .inr fun e2 => hne (by rw [← h g e, h' g e2.symm])

/-- PILES: a slice value that the call itself has made, each of its cells a slice of ints of its own. t: ints; u: the element's type. -/
def Hold (t u : TypeId) (lo : Nat) (ow : Nat → Nat) (W : World) (sv : Value) (Q : List (List Int)) : Prop :=
  ∃ svs : List Value, svs.length = Q.length ∧ W.ownsRow lo u 1 sv Q.length svs ∧ Lab ow 0 sv ∧
    ∀ k z, Q[k]? = some z → ∃ v, svs[k]? = some v ∧ W.ownsRow lo t 1 v z.length (z.map (Value.int .i64)) ∧ Lab ow (k + 2) v
/-- .. as they are read -/
def HRd (W : World) (A : Option Addr) (Q : List (List Int)) : Prop :=
  ∀ k z, Q[k]? = some z → ∃ b off B c, A = some ⟨b, off, none⟩ ∧ b < W.heap.size ∧ W.cell? ⟨b, off + k, none⟩ = some (.slice B z.length c) ∧ Rd 0 W.heap.size W B z

section
variable {t u : TypeId} {lo : Nat} {ow : Nat → Nat} {W W' : World} {sv : Value} {Q : List (List Int)}
theorem HRd.go {A : Option Addr} (h : HRd W A Q) (hb : Below W.heap.size W W') : HRd W' A Q := fun k z hz => by
  obtain ⟨b, off, B, c, e, h1, h2, h3⟩ := h k z hz
  exact ⟨b, off, B, c, e, Nat.lt_of_lt_of_le h1 hb.size, (hb.cell (p := ⟨b, off + k, none⟩) h1).trans h2, (h3.below hb).more (Nat.le_refl _) hb.size⟩
theorem Hold.form (h : Hold t u lo ow W sv Q) : ∃ A c, sv = .slice A Q.length c ∧ Q.length ≤ c ∧ c ≤ maxLen := by
  obtain ⟨svs, _, ho, _⟩ := h
  rcases ho.2 with ⟨rfl, h0⟩ | ⟨g, cap, cur, rfl, _, _, hn, hm, _⟩
  · exact ⟨none, 0, by rw [h0], by omega, by simp [maxLen]⟩
  · exact ⟨_, cap, rfl, hn, hm⟩
theorem Hold.nil (t u : TypeId) (lo : Nat) (ow : Nat → Nat) (W : World) : Hold t u lo ow W (.slice none 0 0) [] :=
  ⟨[], rfl, W.ownsRow_nil _ _ _, Lab.nil _ _, fun k z h => by simp at h⟩
theorem Hold.rd {A : Option Addr} {n c : Nat} (h : Hold t u lo ow W (.slice A n c) Q) : HRd W A Q := fun k z hz => by
  obtain ⟨svs, hl, ho, _, hp⟩ := h
  obtain ⟨v, hv, hvo, _⟩ := hp k z hz
  have hk : k < Q.length := (List.getElem?_eq_some_iff.1 hz).1
  rcases ho.2 with ⟨_, h0⟩ | ⟨g, cap, cur, e, hg, hgg, hn, hm, _⟩
  · omega
  · injection e with e1 e2 e3
    subst e1; subst e2; subst e3
    have hc := ho.cellAt k (by omega)
    rw [hv] at hc
    have ho2 := Ow.of_own hvo
    obtain ⟨B, c2, e4, _, _, hr⟩ := ho2.form
    subst e4
    exact ⟨g, 0, B, c2, rfl, (Array.getElem?_eq_some_iff.1 hgg).1, by rw [Nat.zero_add]; exact hc, hr.more (Nat.zero_le _) (Nat.le_refl _)⟩
/-- nothing of theirs is written -/
theorem Hold.go (h : Hold t u lo ow W sv Q) (hb : Below W.heap.size W W') : Hold t u lo ow W' sv Q := by
  obtain ⟨svs, hl, ho, h0, hp⟩ := h
  refine ⟨svs, hl, own_below ho hb, h0, fun k z hz => ?_⟩
  obtain ⟨v, hv, hvo, hvl⟩ := hp k z hz
  exact ⟨v, hv, own_below hvo hb, hvl⟩
/-- another one's block is written, or new ones are made -/
theorem Hold.kept {v : Value} {j : Nat} (h : Hold t u lo ow W sv Q) (hl : Lab ow j v) (hj : j = 1 ∨ Q.length + 2 ≤ j) (hg : W.grownBy W' v.ownBlock) : Hold t u lo ow W' sv Q := by
  obtain ⟨svs, hls, ho, h0, hp⟩ := h
  refine ⟨svs, hls, ho.kept hg (h0.far hl (by omega)), h0, fun k z hz => ?_⟩
  obtain ⟨x, hx, hxo, hxl⟩ := hp k z hz
  have hk : k < Q.length := (List.getElem?_eq_some_iff.1 hz).1
  exact ⟨x, hx, hxo.kept hg (hxl.far hl (by omega)), hxl⟩
theorem Hold.label {j : Nat} (h : Hold t u lo ow W sv Q) : Hold t u lo (owAt ow W.heap.size j) W sv Q := by
  obtain ⟨svs, hls, ho, h0, hp⟩ := h
  refine ⟨svs, hls, ho, h0.at_old fun g hg => (ho.lt g hg).2, fun k z hz => ?_⟩
  obtain ⟨x, hx, hxo, hxl⟩ := hp k z hz
  exact ⟨x, hx, hxo, hxl.at_old fun g hg => (hxo.lt g hg).2⟩

/-- WHAT push AT THE PILE k FINDS -/
theorem Hold.at_ {A : Option Addr} {n c : Nat} (h : Hold t u lo ow W (.slice A n c) Q) {k : Nat} {z : List Int} (hz : Q[k]? = some z) :
    ∃ g v, A = some ⟨g, 0, none⟩ ∧ W.cell? ⟨g, k, none⟩ = some v ∧ W.frozen? ⟨g, k, none⟩ = false ∧ W.ownsRow lo t 1 v z.length (z.map (Value.int .i64)) ∧ v.ownBlock ≠ some g ∧ lo ≤ g ∧ g < W.heap.size ∧ Lab ow (k + 2) v := by
  obtain ⟨svs, hl, ho, h0, hp⟩ := h
  obtain ⟨v, hv, hvo, hvl⟩ := hp k z hz
  have hk : k < Q.length := (List.getElem?_eq_some_iff.1 hz).1
  rcases ho.2 with ⟨_, h0⟩ | ⟨g, cap, cur, e, hg, hgg, hn, hm, _⟩
  · omega
  · injection e with e1 e2 e3
    subst e1; subst e2; subst e3
    have hc := ho.cellAt k (by omega)
    rw [hv] at hc
    refine ⟨g, v, rfl, hc, ho.frozenAt k, hvo, fun e => ?_, hg, (Array.getElem?_eq_some_iff.1 hgg).1, hvl⟩
    have h1 := hvl g e
    have h2 := h0 g rfl
    omega
/-- .. AND LEAVES -/
theorem Hold.pushed {g n c : Nat} {v v' : Value} {W1 : World} {z z' : List Int} {k : Nat} (h : Hold t u lo ow W (.slice (some ⟨g, 0, none⟩) n c) Q) (hz : Q[k]? = some z) (hvl : Lab ow (k + 2) v)
    (hg : W.grownBy W1 v.ownBlock) (ho' : W1.ownsRow lo t 1 v' z'.length (z'.map (Value.int .i64))) (hn : ∀ g, v'.ownBlock = some g → v.ownBlock = some g ∨ W.heap.size ≤ g) :
    Hold t u lo (owAt ow W.heap.size (k + 2)) (W1.setCell ⟨g, k, none⟩ v') (.slice (some ⟨g, 0, none⟩) n c) (Q.set k z') := by
  have hfull := h
  obtain ⟨svs, hls, ho, h0, hp⟩ := h
  have hk : k < Q.length := (List.getElem?_eq_some_iff.1 hz).1
  have hnl : n = Q.length := by
    rcases ho.2 with ⟨e, _⟩ | ⟨_, _, _, e, _⟩
    · cases e
    · injection e
  subst hnl
  have ho1 : W1.ownsRow lo u 1 (.slice (some ⟨g, 0, none⟩) Q.length c) Q.length svs := ho.kept hg (h0.far hvl (by omega))
  have hst := ho1.stored k v'
  have hgs : W1.grownBy (W1.setCell ⟨g, k, none⟩ v') (some g) := hst.2
  have hlt := (ho.lt g rfl).2
  have hsz := hg.size
  refine ⟨svs.set k v', by simp [hls], by rw [List.length_set]; exact hst.1, ?_, fun j y hy => ?_⟩
  · exact h0.at_old fun g2 hg2 => by
      simp [Value.ownBlock] at hg2
      omega
  · rw [List.getElem?_set] at hy
    by_cases hkj : k = j
    · subst hkj
      rw [if_pos rfl, if_pos hk] at hy
      injection hy with hy
      subst hy
      refine ⟨v', by rw [List.getElem?_set_self (by omega)], ho'.kept hgs ?_, hvl.at_new hn⟩
      cases e : v'.ownBlock with
      | none => exact .inl rfl
      | some g2 =>
        refine .inr fun e2 => ?_
        have e3 : g2 = g := by simpa using e2
        rcases hn g2 e with h3 | h3
        · have h4 := hvl g2 h3
          have h5 : ow g = 0 := h0 g rfl
          rw [e3] at h4
          omega
        · omega
    · rw [if_neg hkj] at hy
      obtain ⟨x, hx, hxo, hxl⟩ := hp j y hy
      refine ⟨x, by rw [List.getElem?_set_ne hkj]; exact hx, (hxo.kept hg (hxl.far hvl (by omega))).kept hgs ?_, hxl.at_old fun g2 hg2 => (hxo.lt g2 hg2).2⟩
      exact (hxl.far h0 (by omega)).imp id fun h3 e => h3 (by rw [e]; rfl)
/-- another own slice stays -/
theorem push_far {g k j m : Nat} {v v' x : Value} {W1 : World} {e : TypeId} {xs : List Value} {s : Value} (hs : s.ownBlock = some g) (h0 : Lab ow 0 s) (hvl : Lab ow (k + 2) v) (hg : W.grownBy W1 v.ownBlock)
    (hxo : W.ownsRow lo e 1 x m xs) (hxl : Lab ow j x) (hj : j = 1) : (W1.setCell ⟨g, k, none⟩ v').ownsRow lo e 1 x m xs ∧ Lab (owAt ow W.heap.size (k + 2)) j x := by
  refine ⟨(hxo.kept hg (hxl.far hvl (by omega))).kept (row := some g) ⟨rfl, rfl, rfl, by simp [World.setCell], fun i _ hne => Below.heap_setCell _ ⟨g, k, none⟩ v' i fun e => hne (by rw [e])⟩ ?_, hxl.at_old fun g2 hg2 => (hxo.lt g2 hg2).2⟩
  rw [← hs]
  exact hxl.far h0 (by omega)
end

end Go.Proofs.Ytnekjhpocfdpnaa
