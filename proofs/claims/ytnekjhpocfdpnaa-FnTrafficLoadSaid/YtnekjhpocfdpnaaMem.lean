/-
  Words for memory that the contracts of this seat share: a slice of ints that reads as a list. Nothing here speaks of the program.
-/
import Derived.Below
import Derived.WalkKit
import Derived.Lib.Hide
import Derived.Deep.QuietTactic
import Derived.BigQuiet
namespace Go.Proofs.Ytnekjhpocfdpnaa
open Go.RowKit

/-- THE SLICE VALUE '.slice A zs.length c' READS AS THE INTS zs; its cells lie in one block from lo on, below hi. -/
def Rd (lo hi : Nat) (W : World) (A : Option Addr) (zs : List Int) : Prop :=
  0 < zs.length → ∃ b off, A = some ⟨b, off, none⟩ ∧ lo ≤ b ∧ b < hi ∧ ∀ j, j < zs.length → W.cell? ⟨b, off + j, none⟩ = some (.int .i64 (zs[j]?.getD 0))

section
variable {lo hi lo' hi' : Nat} {W W' : World} {A : Option Addr} {zs : List Int}
theorem Rd.nil : Rd lo hi W A [] := fun h => absurd h (by simp)
theorem Rd.more (h : Rd lo hi W A zs) (hl : lo' ≤ lo) (hh : hi ≤ hi') : Rd lo' hi' W A zs := fun hn => by
  obtain ⟨b, off, e, h1, h2, hc⟩ := h hn
  exact ⟨b, off, e, by omega, by omega, hc⟩
theorem Rd.below (h : Rd lo hi W A zs) (hb : Below hi W W') : Rd lo hi W' A zs := fun hn => by
  obtain ⟨b, off, e, h1, h2, hc⟩ := h hn
  exact ⟨b, off, e, h1, h2, fun j hj => (hb.cell (p := ⟨b, off + j, none⟩) h2).trans (hc j hj)⟩
/-- what is asked for in a round alone -/
theorem Rd.at_ (h : Rd lo hi W A zs) {k : Nat} (hk : k < zs.length) : ∃ b off, A = some ⟨b, off, none⟩ ∧ lo ≤ b ∧ b < hi ∧ W.cell? ⟨b, off + k, none⟩ = some (.int .i64 (zs[k]?.getD 0)) := by
  obtain ⟨b, off, e, h1, h2, hc⟩ := h (by omega)
  exact ⟨b, off, e, h1, h2, hc k hk⟩
end

/-- Below, after a contract of the usual end: old cells read as before. -/
theorem bcell {B : Nat} {W w1 : World} (hb : Below B W w1) : (∀ b o, b < B → w1.cell? ⟨b, o, none⟩ = W.cell? ⟨b, o, none⟩) ∧ (∀ b o, b < B → w1.frozen? ⟨b, o, none⟩ = W.frozen? ⟨b, o, none⟩) :=
  ⟨fun b o h => hb.cell (p := ⟨b, o, none⟩) h, fun b o h => hb.frozen (p := ⟨b, o, none⟩) h⟩

/-! ### a slice that the call itself has made -/

/-- THE SLICE VALUE sv HOLDS zs IN A BLOCK OF ITS OWN, from lo on, below hi (or it is nil and there are none). t: the type of ints. -/
def Ow (t : TypeId) (lo hi : Nat) (W : World) (sv : Value) (zs : List Int) : Prop :=
  W.ownsRow lo t 1 sv zs.length (zs.map (Value.int .i64)) ∧ ∀ g, sv.ownBlock = some g → g < hi

section
variable {t : TypeId} {lo hi lo' hi' : Nat} {W W' : World} {sv : Value} {zs : List Int}
theorem Ow.nil : Ow t lo hi W (.slice none 0 0) [] := ⟨W.ownsRow_nil _ _ _, fun g h => by simp [Value.ownBlock] at h⟩
theorem Ow.own (h : Ow t lo hi W sv zs) : W.ownsRow lo t 1 sv zs.length (zs.map (Value.int .i64)) := h.1
theorem Ow.form (h : Ow t lo hi W sv zs) : ∃ A c, sv = .slice A zs.length c ∧ zs.length ≤ c ∧ c ≤ maxLen ∧ Rd lo hi W A zs := by
  have ho := h.1
  rcases h.1.2 with ⟨rfl, h0⟩ | ⟨g, cap, cur, rfl, hg, hgg, hn, hm, hs, ht⟩
  · exact ⟨none, 0, by rw [h0], by omega, by simp [maxLen], fun hp => by omega⟩
  · refine ⟨some ⟨g, 0, none⟩, cap, rfl, hn, hm, fun _ => ⟨g, 0, rfl, hg, h.2 g rfl, fun j hj => ?_⟩⟩
    rw [Nat.zero_add]
    have := ho.cells (g := g) rfl j (.int .i64 (zs[j]?.getD 0)) (by simp [hj])
    rw [show (⟨g, 0, none⟩ : Addr).add j = ⟨g, j, none⟩ by unfold Addr.add; split <;> simp_all] at this
    exact this
theorem Ow.kept (h : Ow t lo hi W sv zs) {row : Option Nat} (hg : W.grownBy W' row) (hr : ∀ r, row = some r → r < lo ∨ hi ≤ r) : Ow t lo hi W' sv zs := by
  refine ⟨h.1.kept hg ?_, h.2⟩
  cases hb : sv.ownBlock with
  | none => exact .inl rfl
  | some g =>
    refine .inr fun e => ?_
    have h1 := h.2 g hb
    have h2 := (h.1.lt g hb).1
    rcases hr g e.symm with h3 | h3 <;> omega
theorem Ow.below {B : Nat} (h : Ow t lo hi W sv zs) (hb : Below B W W') (hB : hi ≤ B) : Ow t lo hi W' sv zs := by
  refine ⟨⟨h.1.1, ?_⟩, h.2⟩
  rcases h.1.2 with h0 | ⟨g, cap, cur, rfl, hg, hgg, rest⟩
  · exact .inl h0
  · have := h.2 g rfl
    exact .inr ⟨g, cap, cur, rfl, hg, (hb.block g (by omega)).trans hgg, rest⟩
theorem Ow.more (h : Ow t lo hi W sv zs) (hl : lo' ≤ lo) (hh : hi ≤ hi') : Ow t lo' hi' W sv zs := by
  refine ⟨⟨h.1.1, ?_⟩, fun g e => by have := h.2 g e; omega⟩
  rcases h.1.2 with h0 | ⟨g, cap, cur, rfl, hg, rest⟩
  · exact .inl h0
  · exact .inr ⟨g, cap, cur, rfl, by omega, rest⟩
theorem Ow.of_own (h : W.ownsRow lo t 1 sv zs.length (zs.map (Value.int .i64))) : Ow t lo W.heap.size W sv zs := ⟨h, fun g e => (h.lt g e).2⟩
theorem Rd.grown {A : Option Addr} (h : Rd lo hi W A zs) {row : Option Nat} (hg : W.grownBy W' row) (hr : ∀ r, row = some r → r < lo ∨ hi ≤ r) : Rd lo hi W' A zs := fun hn => by
  obtain ⟨b, off, e, h1, h2, hc⟩ := h hn
  refine ⟨b, off, e, h1, h2, fun j hj => (World.cell?_of_block (hg.block b (World.block_lt_of_cell? _ _ (hc j hj)) fun e2 => ?_)).trans (hc j hj)⟩
  have := hr b e2.symm
  omega
end

theorem grown_drew {a w : World} {row : Option Nat} (h : a.grownBy w row) : a.grownBy w.drew row := ⟨h.os, h.tape, h.output, h.size, h.block⟩
theorem grown_then {a b c : World} {row : Option Nat} (h : a.grownBy b row) (k : b.grownBy c row) : a.grownBy c row :=
  ⟨k.os.trans h.os, k.tape.trans h.tape, k.output.trans h.output, Nat.le_trans h.size k.size, fun i hi hne => (k.block i (Nat.lt_of_lt_of_le hi h.size) hne).trans (h.block i hi hne)⟩

theorem OwnsRow.more {W : World} {base base' : Nat} {e : TypeId} {size n : Nat} {v : Value} {xs : List Value} (h : W.ownsRow base e size v n xs) (hb : base' ≤ base) : W.ownsRow base' e size v n xs := by
  refine ⟨h.1, ?_⟩
  rcases h.2 with h0 | ⟨g, cap, cur, hv, hg, rest⟩
  · exact .inl h0
  · exact .inr ⟨g, cap, cur, hv, by omega, rest⟩

/-- A SLICE OF INTS AS AN ARGUMENT: it reads as zs in w; no more of them than the laws let in. -/
def Arg (w : World) (A : Option Addr) (c : Nat) (zs : List Int) : Prop := zs.length ≤ 2097152 ∧ zs.length ≤ c ∧ c ≤ maxLen ∧ Rd 0 w.heap.size w A zs
theorem Arg.go {w w' : World} {A : Option Addr} {c : Nat} {zs : List Int} (h : Arg w A c zs) (hb : Below w.heap.size w w') : Arg w' A c zs :=
  ⟨h.1, h.2.1, h.2.2.1, (h.2.2.2.below hb).more (Nat.le_refl _) hb.size⟩
theorem Arg.len {w : World} {A : Option Addr} {c : Nat} {zs : List Int} (h : Arg w A c zs) : zs.length ≤ 2097152 := h.1
theorem Arg.rd {w : World} {A : Option Addr} {c : Nat} {zs : List Int} (h : Arg w A c zs) : Rd 0 w.heap.size w A zs := h.2.2.2
theorem Arg.nil (w : World) : Arg w none 0 [] := ⟨by simp, by simp, by simp, Rd.nil⟩
theorem Arg.grown {w w' : World} {A : Option Addr} {c : Nat} {zs : List Int} (h : Arg w A c zs) {lo hi : Nat} (hr : Rd lo hi w A zs) (hw : hi ≤ w.heap.size) {row : Option Nat} (hg : w.grownBy w' row) (hrow : ∀ r, row = some r → r < lo ∨ hi ≤ r) : Arg w' A c zs :=
  ⟨h.1, h.2.1, h.2.2.1, (hr.grown hg hrow).more (Nat.zero_le _) (Nat.le_trans hw hg.size)⟩

/-- WHAT A FUNCTION THAT HANDS BACK A NEW SLICE LEAVES: f of the slice value that holds zs in new memory; nothing that was there has turned. -/
def RetS (t : TypeId) (f : Value → Value) (zs : List Int) (w : World) (e : Ending) (w' : World) : Prop :=
  ∃ A c, e = .returned (f (.slice A zs.length c)) ∧ Arg w' A c zs ∧ Ow t w.heap.size w'.heap.size w' (.slice A zs.length c) zs ∧ Below w.heap.size w w'
theorem Ow.arg {t : TypeId} {lo hi : Nat} {w : World} {A : Option Addr} {c : Nat} {zs : List Int} (h : Ow t lo hi w (.slice A zs.length c) zs) (hl : zs.length ≤ 2097152) (hh : hi ≤ w.heap.size) : Arg w A c zs := by
  obtain ⟨A', c', e, h1, h2, h3⟩ := h.form
  injection e with e1 e2 e3
  subst e1; subst e3
  exact ⟨hl, h1, h2, h3.more (Nat.zero_le _) hh⟩
theorem RetS.mk {t : TypeId} {f : Value → Value} {zs : List Int} {w w' : World} {sv : Value} (hl : zs.length ≤ 2097152) (h : w'.ownsRow w.heap.size t 1 sv zs.length (zs.map (Value.int .i64))) (hb : Below w.heap.size w w') : RetS t f zs w (.returned (f sv)) w' := by
  have ho := Ow.of_own h
  obtain ⟨A, c, rfl, _, _, _⟩ := ho.form
  exact ⟨A, c, rfl, ho.arg hl (Nat.le_refl _), ho, hb⟩
theorem RetS.nil {t : TypeId} {f : Value → Value} {w w' : World} (hb : Below w.heap.size w w') : RetS t f [] w (.returned (f (.slice none 0 0))) w' :=
  ⟨none, 0, rfl, Arg.nil _, Ow.nil, hb⟩
/-- A SLICE THAT THE LAW HOLDS: where its cells lie is known, so that it is kept whatever is written elsewhere. -/
def Held (lo hi : Nat) (w : World) (A : Option Addr) (c : Nat) (zs : List Int) : Prop := Rd lo hi w A zs ∧ hi ≤ w.heap.size ∧ zs.length ≤ 2097152 ∧ zs.length ≤ c ∧ c ≤ maxLen
section
variable {lo hi : Nat} {w w' : World} {A : Option Addr} {c : Nat} {zs : List Int}
theorem Held.go (h : Held lo hi w A c zs) (hb : Below w.heap.size w w') : Held lo hi w' A c zs :=
  ⟨h.1.below (hb.mono h.2.1), Nat.le_trans h.2.1 hb.size, h.2.2⟩
theorem Held.grown (h : Held lo hi w A c zs) {row : Option Nat} (hg : w.grownBy w' row) (hr : ∀ r, row = some r → r < lo ∨ hi ≤ r) : Held lo hi w' A c zs :=
  ⟨h.1.grown hg hr, Nat.le_trans h.2.1 hg.size, h.2.2⟩
theorem Held.arg (h : Held lo hi w A c zs) : Arg w A c zs := ⟨h.2.2.1, h.2.2.2.1, h.2.2.2.2, h.1.more (Nat.zero_le _) h.2.1⟩
theorem Arg.held (h : Arg w A c zs) : Held 0 w.heap.size w A c zs := ⟨h.2.2.2, Nat.le_refl _, h.1, h.2.1, h.2.2.1⟩
theorem Ow.held {t : TypeId} (h : Ow t lo hi w (.slice A zs.length c) zs) (hh : hi ≤ w.heap.size) (hl : zs.length ≤ 2097152) : Held lo hi w A c zs := by
  obtain ⟨A', c', e, h1, h2, h3⟩ := h.form
  injection e with e1 e2 e3
  subst e1; subst e3
  exact ⟨h3, hh, hl, h1, h2⟩
theorem Ow.range {t : TypeId} {sv : Value} (h : Ow t lo hi w sv zs) : ∀ r, sv.ownBlock = some r → lo ≤ r ∧ r < hi := fun r e => ⟨(h.1.lt r e).1, h.2 r e⟩
theorem Ow.go {t : TypeId} {sv : Value} (h : Ow t lo hi w sv zs) (hb : Below w.heap.size w w') (hh : hi ≤ w.heap.size) : Ow t lo hi w' sv zs := h.below hb hh
end
theorem below_step {w a b : World} (h : Below w.heap.size w a) (k : Below a.heap.size a b) : Below w.heap.size w b := h.trans (k.mono h.size)
theorem below_row {w a b : World} {row : Option Nat} (h : Below w.heap.size w a) (hg : a.grownBy b row) (hr : ∀ r, row = some r → w.heap.size ≤ r) : Below w.heap.size w b := h.grown hg h.size hr

theorem grown_of_below {a b : World} (h : Below a.heap.size a b) (row : Option Nat) : a.grownBy b row := ⟨h.os, h.tape, h.output, h.size, fun i hi _ => h.block i hi⟩
theorem own_below {w w' : World} {base : Nat} {e : TypeId} {size : Nat} {v : Value} {n : Nat} {xs : List Value} (h : w.ownsRow base e size v n xs) (hb : Below w.heap.size w w') : w'.ownsRow base e size v n xs :=
  h.kept (grown_of_below hb none) (by cases v.ownBlock <;> simp)

/-- WHAT A FUNCTION THAT ONLY READS LEAVES. -/
def RetQ (v : Value) (w : World) (e : Ending) (w' : World) : Prop := e = .returned v ∧ ∃ n, w' = w.drewN n
/-- .. one that may lay new blocks -/
def RetB (v : Value) (w : World) (e : Ending) (w' : World) : Prop := e = .returned v ∧ Below w.heap.size w w'
theorem below_drewN {B : Nat} {a w : World} (h : Below B a w) (n : Nat) : Below B a (w.drewN n) := ⟨h.os, h.tape, h.output, h.size, h.block⟩
theorem RetB.same {v : Value} {w : World} {e : Ending} {w' : World} (h : e = .returned v ∧ w = w') : RetB v w e w' := by
  obtain ⟨he, rfl⟩ := h
  exact ⟨he, Below.refl _ _⟩
theorem RetQ.toB {v : Value} {w w' : World} {e : Ending} (h : RetQ v w e w') : RetB v w e w' := by
  obtain ⟨he, n, rfl⟩ := h
  exact ⟨he, below_drewN (Below.refl _ _) n⟩

end Go.Proofs.Ytnekjhpocfdpnaa
