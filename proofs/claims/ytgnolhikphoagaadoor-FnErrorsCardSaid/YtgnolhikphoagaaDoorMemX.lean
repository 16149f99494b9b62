/-
  Words for memory: a slice of texts that reads as a list. Nothing here speaks of the program. (Off Mem, by a program of mine.)
-/
import Derived.Test.YtgnolhikphoagaaDoorMem
import Derived.Test.YtgnolhikphoagaaDoorStr
namespace Go.Proofs.YtgnolhikphoagaaDoor
open Go.RowKit

/-- THE SLICE VALUE '.slice A zs.length c' READS AS THE TEXTS zs; its cells lie in one block from lo on, below hi. -/
def RdX (lo hi : Nat) (W : World) (A : Option Addr) (zs : List (List UInt8)) : Prop :=
  0 < zs.length → ∃ b off, A = some ⟨b, off, none⟩ ∧ lo ≤ b ∧ b < hi ∧ ∀ j, j < zs.length → W.cell? ⟨b, off + j, none⟩ = some (.string (str (zs[j]?.getD [])))

section
variable {lo hi lo' hi' : Nat} {W W' : World} {A : Option Addr} {zs : List (List UInt8)}
theorem RdX.nil : RdX lo hi W A [] := fun h => absurd h (by simp)
theorem RdX.more (h : RdX lo hi W A zs) (hl : lo' ≤ lo) (hh : hi ≤ hi') : RdX lo' hi' W A zs := fun hn => by
  obtain ⟨b, off, e, h1, h2, hc⟩ := h hn
  exact ⟨b, off, e, by omega, by omega, hc⟩
theorem RdX.below (h : RdX lo hi W A zs) (hb : Below hi W W') : RdX lo hi W' A zs := fun hn => by
  obtain ⟨b, off, e, h1, h2, hc⟩ := h hn
  exact ⟨b, off, e, h1, h2, fun j hj => (hb.cell (p := ⟨b, off + j, none⟩) h2).trans (hc j hj)⟩
/-- what is asked for in a round alone -/
theorem RdX.at_ (h : RdX lo hi W A zs) {k : Nat} (hk : k < zs.length) : ∃ b off, A = some ⟨b, off, none⟩ ∧ lo ≤ b ∧ b < hi ∧ W.cell? ⟨b, off + k, none⟩ = some (.string (str (zs[k]?.getD []))) := by
  obtain ⟨b, off, e, h1, h2, hc⟩ := h (by omega)
  exact ⟨b, off, e, h1, h2, hc k hk⟩
end

/-- THE SLICE VALUE sv HOLDS zs IN A BLOCK OF ITS OWN, from lo on, below hi (or it is nil and there are none). t: the type of texts. -/
def OwX (t : TypeId) (lo hi : Nat) (W : World) (sv : Value) (zs : List (List UInt8)) : Prop :=
  W.ownsRow lo t 1 sv zs.length (txCells zs) ∧ ∀ g, sv.ownBlock = some g → g < hi

section
variable {t : TypeId} {lo hi lo' hi' : Nat} {W W' : World} {sv : Value} {zs : List (List UInt8)}
theorem OwX.nil : OwX t lo hi W (.slice none 0 0) [] := ⟨W.ownsRow_nil _ _ _, fun g h => by simp [Value.ownBlock] at h⟩
theorem OwX.own (h : OwX t lo hi W sv zs) : W.ownsRow lo t 1 sv zs.length (txCells zs) := h.1
theorem OwX.form (h : OwX t lo hi W sv zs) : ∃ A c, sv = .slice A zs.length c ∧ zs.length ≤ c ∧ c ≤ maxLen ∧ RdX lo hi W A zs := by
  have ho := h.1
  rcases h.1.2 with ⟨rfl, h0⟩ | ⟨g, cap, cur, rfl, hg, hgg, hn, hm, hs, ht⟩
  · exact ⟨none, 0, by rw [h0], by omega, by simp [maxLen], fun hp => by omega⟩
  · refine ⟨some ⟨g, 0, none⟩, cap, rfl, hn, hm, fun _ => ⟨g, 0, rfl, hg, h.2 g rfl, fun j hj => ?_⟩⟩
    rw [Nat.zero_add]
    have := ho.cells (g := g) rfl j (.string (str (zs[j]?.getD []))) (by rw [txCells_at]; simp [hj])
    rw [show (⟨g, 0, none⟩ : Addr).add j = ⟨g, j, none⟩ by unfold Addr.add; split <;> simp_all] at this
    exact this
theorem OwX.kept (h : OwX t lo hi W sv zs) {row : Option Nat} (hg : W.grownBy W' row) (hr : ∀ r, row = some r → r < lo ∨ hi ≤ r) : OwX t lo hi W' sv zs := by
  refine ⟨h.1.kept hg ?_, h.2⟩
  cases hb : sv.ownBlock with
  | none => exact .inl rfl
  | some g =>
    refine .inr fun e => ?_
    have h1 := h.2 g hb
    have h2 := (h.1.lt g hb).1
    rcases hr g e.symm with h3 | h3 <;> omega
theorem OwX.below {B : Nat} (h : OwX t lo hi W sv zs) (hb : Below B W W') (hB : hi ≤ B) : OwX t lo hi W' sv zs := by
  refine ⟨⟨h.1.1, ?_⟩, h.2⟩
  rcases h.1.2 with h0 | ⟨g, cap, cur, rfl, hg, hgg, rest⟩
  · exact .inl h0
  · have := h.2 g rfl
    exact .inr ⟨g, cap, cur, rfl, hg, (hb.block g (by omega)).trans hgg, rest⟩
theorem OwX.more (h : OwX t lo hi W sv zs) (hl : lo' ≤ lo) (hh : hi ≤ hi') : OwX t lo' hi' W sv zs := by
  refine ⟨⟨h.1.1, ?_⟩, fun g e => by have := h.2 g e; omega⟩
  rcases h.1.2 with h0 | ⟨g, cap, cur, rfl, hg, rest⟩
  · exact .inl h0
  · exact .inr ⟨g, cap, cur, rfl, by omega, rest⟩
theorem OwX.of_own (h : W.ownsRow lo t 1 sv zs.length (txCells zs)) : OwX t lo W.heap.size W sv zs := ⟨h, fun g e => (h.lt g e).2⟩
theorem RdX.grown {A : Option Addr} (h : RdX lo hi W A zs) {row : Option Nat} (hg : W.grownBy W' row) (hr : ∀ r, row = some r → r < lo ∨ hi ≤ r) : RdX lo hi W' A zs := fun hn => by
  obtain ⟨b, off, e, h1, h2, hc⟩ := h hn
  refine ⟨b, off, e, h1, h2, fun j hj => (World.cell?_of_block (hg.block b (World.block_lt_of_cell? _ _ (hc j hj)) fun e2 => ?_)).trans (hc j hj)⟩
  have := hr b e2.symm
  omega
end

/-- A SLICE OF TEXTS AS AN ARGUMENT: it reads as zs in w; no more of them than the laws let in. -/
def ArgX (w : World) (A : Option Addr) (c : Nat) (zs : List (List UInt8)) : Prop := zs.length ≤ 2097152 ∧ zs.length ≤ c ∧ c ≤ maxLen ∧ RdX 0 w.heap.size w A zs
theorem ArgX.go {w w' : World} {A : Option Addr} {c : Nat} {zs : List (List UInt8)} (h : ArgX w A c zs) (hb : Below w.heap.size w w') : ArgX w' A c zs :=
  ⟨h.1, h.2.1, h.2.2.1, (h.2.2.2.below hb).more (Nat.le_refl _) hb.size⟩
theorem ArgX.len {w : World} {A : Option Addr} {c : Nat} {zs : List (List UInt8)} (h : ArgX w A c zs) : zs.length ≤ 2097152 := h.1
theorem ArgX.rd {w : World} {A : Option Addr} {c : Nat} {zs : List (List UInt8)} (h : ArgX w A c zs) : RdX 0 w.heap.size w A zs := h.2.2.2
theorem ArgX.nil (w : World) : ArgX w none 0 [] := ⟨by simp, by simp, by simp, RdX.nil⟩
theorem ArgX.grown {w w' : World} {A : Option Addr} {c : Nat} {zs : List (List UInt8)} (h : ArgX w A c zs) {lo hi : Nat} (hr : RdX lo hi w A zs) (hw : hi ≤ w.heap.size) {row : Option Nat} (hg : w.grownBy w' row) (hrow : ∀ r, row = some r → r < lo ∨ hi ≤ r) : ArgX w' A c zs :=
  ⟨h.1, h.2.1, h.2.2.1, (hr.grown hg hrow).more (Nat.zero_le _) (Nat.le_trans hw hg.size)⟩

/-- WHAT A FUNCTION THAT HANDS BACK A NEW SLICE LEAVES: f of the slice value that holds zs in new memory; nothing that was there has turned. -/
def RetSX (t : TypeId) (f : Value → Value) (zs : List (List UInt8)) (w : World) (e : Ending) (w' : World) : Prop :=
  ∃ A c, e = .returned (f (.slice A zs.length c)) ∧ ArgX w' A c zs ∧ OwX t w.heap.size w'.heap.size w' (.slice A zs.length c) zs ∧ Below w.heap.size w w'
theorem OwX.arg {t : TypeId} {lo hi : Nat} {w : World} {A : Option Addr} {c : Nat} {zs : List (List UInt8)} (h : OwX t lo hi w (.slice A zs.length c) zs) (hl : zs.length ≤ 2097152) (hh : hi ≤ w.heap.size) : ArgX w A c zs := by
  obtain ⟨A', c', e, h1, h2, h3⟩ := h.form
  injection e with e1 e2 e3
  subst e1; subst e3
  exact ⟨hl, h1, h2, h3.more (Nat.zero_le _) hh⟩
theorem RetSX.mk {t : TypeId} {f : Value → Value} {zs : List (List UInt8)} {w w' : World} {sv : Value} (hl : zs.length ≤ 2097152) (h : w'.ownsRow w.heap.size t 1 sv zs.length (txCells zs)) (hb : Below w.heap.size w w') : RetSX t f zs w (.returned (f sv)) w' := by
  have ho := OwX.of_own h
  obtain ⟨A, c, rfl, _, _, _⟩ := ho.form
  exact ⟨A, c, rfl, ho.arg hl (Nat.le_refl _), ho, hb⟩
theorem RetSX.nil {t : TypeId} {f : Value → Value} {w w' : World} (hb : Below w.heap.size w w') : RetSX t f [] w (.returned (f (.slice none 0 0))) w' :=
  ⟨none, 0, rfl, ArgX.nil _, OwX.nil, hb⟩
/-- A SLICE THAT THE LAW HOLDS: where its cells lie is known, so that it is kept whatever is written elsewhere. -/
def HeldX (lo hi : Nat) (w : World) (A : Option Addr) (c : Nat) (zs : List (List UInt8)) : Prop := RdX lo hi w A zs ∧ hi ≤ w.heap.size ∧ zs.length ≤ 2097152 ∧ zs.length ≤ c ∧ c ≤ maxLen
section
variable {lo hi : Nat} {w w' : World} {A : Option Addr} {c : Nat} {zs : List (List UInt8)}
theorem HeldX.go (h : HeldX lo hi w A c zs) (hb : Below w.heap.size w w') : HeldX lo hi w' A c zs :=
  ⟨h.1.below (hb.mono h.2.1), Nat.le_trans h.2.1 hb.size, h.2.2⟩
theorem HeldX.grown (h : HeldX lo hi w A c zs) {row : Option Nat} (hg : w.grownBy w' row) (hr : ∀ r, row = some r → r < lo ∨ hi ≤ r) : HeldX lo hi w' A c zs :=
  ⟨h.1.grown hg hr, Nat.le_trans h.2.1 hg.size, h.2.2⟩
theorem HeldX.arg (h : HeldX lo hi w A c zs) : ArgX w A c zs := ⟨h.2.2.1, h.2.2.2.1, h.2.2.2.2, h.1.more (Nat.zero_le _) h.2.1⟩
theorem ArgX.held (h : ArgX w A c zs) : HeldX 0 w.heap.size w A c zs := ⟨h.2.2.2, Nat.le_refl _, h.1, h.2.1, h.2.2.1⟩
theorem OwX.held {t : TypeId} (h : OwX t lo hi w (.slice A zs.length c) zs) (hh : hi ≤ w.heap.size) (hl : zs.length ≤ 2097152) : HeldX lo hi w A c zs := by
  obtain ⟨A', c', e, h1, h2, h3⟩ := h.form
  injection e with e1 e2 e3
  subst e1; subst e3
  exact ⟨h3, hh, hl, h1, h2⟩
theorem OwX.range {t : TypeId} {sv : Value} (h : OwX t lo hi w sv zs) : ∀ r, sv.ownBlock = some r → lo ≤ r ∧ r < hi := fun r e => ⟨(h.1.lt r e).1, h.2 r e⟩
theorem OwX.go {t : TypeId} {sv : Value} (h : OwX t lo hi w sv zs) (hb : Below w.heap.size w w') (hh : hi ≤ w.heap.size) : OwX t lo hi w' sv zs := h.below hb hh
end

end Go.Proofs.YtgnolhikphoagaaDoor
