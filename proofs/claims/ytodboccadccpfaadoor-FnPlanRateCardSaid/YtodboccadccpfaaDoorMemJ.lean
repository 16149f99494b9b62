/-
  Words for memory: a slice of jbss that reads as a list. Nothing here speaks of the program.
-/
import Derived.Test.YtodboccadccpfaaDoorMem
import Derived.Test.YtodboccadccpfaaDoorSec
namespace Go.Proofs.YtodboccadccpfaaDoor
open Go.RowKit

/-- a value of the struct -/
structure Jbs where
  d : Int
  g : Int
deriving DecidableEq
theorem Jbs.ext_ {a b : Jbs} (h0 : a.d = b.d) (h1 : a.g = b.g) : a = b := by
  cases a; cases b; simp_all
def Jbs.zero : Jbs := ⟨0, 0⟩
def Jbs.v (s : Jbs) : Value := .agg #[.int .i64 s.d, .int .i64 s.g]
def jbsAt (ss : List Jbs) (k : Nat) : Jbs := ss[k]?.getD Jbs.zero
theorem jbsAt_lt {ss : List Jbs} {k : Nat} (h : k < ss.length) : jbsAt ss k = ss[k] := by simp [jbsAt, h]

/-- the cells of one jbs -/
def JbsAt (W : World) (b o : Nat) (s : Jbs) : Prop := W.cell? ⟨b, o, none⟩ = some (.int .i64 s.d) ∧ W.cell? ⟨b, o + 1, none⟩ = some (.int .i64 s.g)
theorem JbsAt.below {hi : Nat} {W W' : World} {b o : Nat} {s : Jbs} (h : JbsAt W b o s) (hb : Below hi W W') (h2 : b < hi) : JbsAt W' b o s :=
  ⟨(hb.cell (p := ⟨b, o, none⟩) h2).trans h.1, (hb.cell (p := ⟨b, o + 1, none⟩) h2).trans h.2⟩
theorem JbsAt.grown {W W' : World} {b o : Nat} {s : Jbs} (h : JbsAt W b o s) {row : Option Nat} (hg : W.grownBy W' row) (hr : ∀ r, row = some r → b ≠ r) : JbsAt W' b o s := by
  have hbl := hg.block b (World.block_lt_of_cell? _ _ h.1) (fun e2 => hr b e2.symm rfl)
  exact ⟨(World.cell?_of_block (a := ⟨b, o, none⟩) hbl).trans h.1, (World.cell?_of_block (a := ⟨b, o + 1, none⟩) hbl).trans h.2⟩

def jbsCell (s : Jbs) : List Value := [.int .i64 s.d, .int .i64 s.g]
def jbsCells (ss : List Jbs) : List Value := ss.flatMap jbsCell
theorem jbsCells_nil : jbsCells [] = [] := rfl
theorem jbsCells_cons (s : Jbs) (r : List Jbs) : jbsCells (s :: r) = .int .i64 s.d :: .int .i64 s.g :: jbsCells r := rfl
theorem jbsCells_append (a b : List Jbs) : jbsCells (a ++ b) = jbsCells a ++ jbsCells b := by simp [jbsCells]
theorem jbsCells_one (s : Jbs) : jbsCells [s] = [.int .i64 s.d, .int .i64 s.g] := rfl
theorem jbsCells_length (ss : List Jbs) : (jbsCells ss).length = ss.length * 2 := by
  induction ss with
  | nil => rfl
  | cons s r ih => rw [jbsCells_cons]; simp [ih]; omega
theorem jbsCells_at (ss : List Jbs) : ∀ (j i : Nat), j < ss.length → i < 2 → (jbsCells ss)[j * 2 + i]? = (jbsCell (jbsAt ss j))[i]? := by
  induction ss with
  | nil => intro j i h; simp at h
  | cons s r ih =>
    intro j i hj hi
    cases j with
    | zero =>
      rw [show 0 * 2 + i = i by omega]
      show ((jbsCell s) ++ jbsCells r)[i]? = _
      rw [List.getElem?_append_left (by simp [jbsCell]; omega)]
      rfl
    | succ j =>
      rw [show (j + 1) * 2 + i = 2 + (j * 2 + i) by omega]
      show ((jbsCell s) ++ jbsCells r)[2 + (j * 2 + i)]? = _
      rw [List.getElem?_append_right (by simp [jbsCell]), show 2 + (j * 2 + i) - (jbsCell s).length = j * 2 + i by simp [jbsCell], ih j i (by simpa using hj) hi]
      rfl
theorem jbsCells_0 {ss : List Jbs} {j : Nat} (h : j < ss.length) : (jbsCells ss)[j * 2]? = some (.int .i64 (jbsAt ss j).d) := jbsCells_at ss j 0 h (by omega)
theorem jbsCells_1 {ss : List Jbs} {j : Nat} (h : j < ss.length) : (jbsCells ss)[j * 2 + 1]? = some (.int .i64 (jbsAt ss j).g) := jbsCells_at ss j 1 h (by omega)
theorem jbsCell_new (w : World) (s : Jbs) (t : TypeId) : ∀ j u, (jbsCell s)[j]? = some u → (w.alloc (.cells #[.int .i64 s.d, .int .i64 s.g] t)).cell? ((⟨w.heap.size, 0, none⟩ : Addr).add j) = some u := by
  intro j u hu
  have h := cell_of_row (w.alloc (.cells #[.int .i64 s.d, .int .i64 s.g] t)) w.heap.size j _ _ _ (heap_alloc_new w _)
  rw [show (⟨w.heap.size, 0, none⟩ : Addr).add j = ⟨w.heap.size, j, none⟩ by unfold Addr.add; split <;> simp_all, h, ← hu]
  simp [jbsCell]
theorem jbsCell_new1 (w : World) (o : Obj) (s : Jbs) (t : TypeId) : ∀ j u, (jbsCell s)[j]? = some u → ((w.alloc o).alloc (.cells #[.int .i64 s.d, .int .i64 s.g] t)).cell? ((⟨w.heap.size + 1, 0, none⟩ : Addr).add j) = some u := by
  have h := jbsCell_new (w.alloc o) s t
  have e : (w.alloc o).heap.size = w.heap.size + 1 := by simp
  rw [e] at h
  exact h
theorem jbsCell_one (s : Jbs) : ∀ u ∈ jbsCell s, u.oneCell' = true := by
  intro u hu
  simp only [jbsCell, List.mem_cons, List.not_mem_nil, or_false] at hu
  rcases hu with rfl | rfl <;> rfl
theorem jbsCells_snoc (ss : List Jbs) (s : Jbs) : jbsCells (ss ++ [s]) = jbsCells ss ++ jbsCell s := by rw [jbsCells_append]; simp [jbsCells]
theorem jbsCells_oneCell (ss : List Jbs) : ∀ u ∈ jbsCells ss, u.oneCell' = true := by
  intro u hu
  unfold jbsCells jbsCell at hu
  rw [List.mem_flatMap] at hu
  obtain ⟨s, _, hs⟩ := hu
  simp only [List.mem_cons, List.not_mem_nil, or_false] at hs
  rcases hs with rfl | rfl <;> rfl

/-- THE SLICE VALUE '.slice A zs.length c' READS AS THE SECTIONS zs; its cells lie in one block from lo on, below hi. -/
def RdJ (lo hi : Nat) (W : World) (A : Option Addr) (zs : List Jbs) : Prop :=
  0 < zs.length → ∃ b off, A = some ⟨b, off, none⟩ ∧ lo ≤ b ∧ b < hi ∧ ∀ j, j < zs.length → JbsAt W b (off + j * 2) (jbsAt zs j)

section
variable {lo hi lo' hi' : Nat} {W W' : World} {A : Option Addr} {zs : List Jbs}
theorem RdJ.nil : RdJ lo hi W A [] := fun h => absurd h (by simp)
theorem RdJ.more (h : RdJ lo hi W A zs) (hl : lo' ≤ lo) (hh : hi ≤ hi') : RdJ lo' hi' W A zs := fun hn => by
  obtain ⟨b, off, e, h1, h2, hc⟩ := h hn
  exact ⟨b, off, e, by omega, by omega, hc⟩
theorem RdJ.below (h : RdJ lo hi W A zs) (hb : Below hi W W') : RdJ lo hi W' A zs := fun hn => by
  obtain ⟨b, off, e, h1, h2, hc⟩ := h hn
  exact ⟨b, off, e, h1, h2, fun j hj => (hc j hj).below hb h2⟩
/-- what is asked for in a round alone -/
theorem RdJ.at_ (h : RdJ lo hi W A zs) {k : Nat} (hk : k < zs.length) : ∃ b off, A = some ⟨b, off, none⟩ ∧ lo ≤ b ∧ b < hi ∧ JbsAt W b (off + k * 2) (jbsAt zs k) := by
  obtain ⟨b, off, e, h1, h2, hc⟩ := h (by omega)
  exact ⟨b, off, e, h1, h2, hc k hk⟩
end

/-- THE SLICE VALUE sv HOLDS zs IN A BLOCK OF ITS OWN, from lo on, below hi (or it is nil and there are none). t: the type of ints. -/
def OwJ (t : TypeId) (lo hi : Nat) (W : World) (sv : Value) (zs : List Jbs) : Prop :=
  W.ownsRow lo t 2 sv zs.length (jbsCells zs) ∧ ∀ g, sv.ownBlock = some g → g < hi

section
variable {t : TypeId} {lo hi lo' hi' : Nat} {W W' : World} {sv : Value} {zs : List Jbs}
theorem OwJ.nil : OwJ t lo hi W (.slice none 0 0) [] := ⟨W.ownsRow_nil _ _ _, fun g h => by simp [Value.ownBlock] at h⟩
theorem OwJ.own (h : OwJ t lo hi W sv zs) : W.ownsRow lo t 2 sv zs.length (jbsCells zs) := h.1
theorem OwJ.form (h : OwJ t lo hi W sv zs) : ∃ A c, sv = .slice A zs.length c ∧ zs.length ≤ c ∧ c ≤ maxLen ∧ RdJ lo hi W A zs := by
  have ho := h.1
  rcases h.1.2 with ⟨rfl, h0⟩ | ⟨g, cap, cur, rfl, hg, hgg, hn, hm, hs, ht⟩
  · exact ⟨none, 0, by rw [h0], by omega, by simp [maxLen], fun hp => by omega⟩
  · refine ⟨some ⟨g, 0, none⟩, cap, rfl, hn, hm, fun _ => ⟨g, 0, rfl, hg, h.2 g rfl, fun j hj => ?_⟩⟩
    have key : ∀ i u, (jbsCells zs)[i]? = some u → W.cell? ⟨g, i, none⟩ = some u := fun i u hu => by
      have := ho.cells (g := g) rfl i u hu
      rwa [show (⟨g, 0, none⟩ : Addr).add i = ⟨g, i, none⟩ by unfold Addr.add; split <;> simp_all] at this
    rw [Nat.zero_add]
    exact ⟨key _ _ (jbsCells_0 hj), key _ _ (jbsCells_1 hj)⟩
theorem OwJ.kept (h : OwJ t lo hi W sv zs) {row : Option Nat} (hg : W.grownBy W' row) (hr : ∀ r, row = some r → r < lo ∨ hi ≤ r) : OwJ t lo hi W' sv zs := by
  refine ⟨h.1.kept hg ?_, h.2⟩
  cases hb : sv.ownBlock with
  | none => exact .inl rfl
  | some g =>
    refine .inr fun e => ?_
    have h1 := h.2 g hb
    have h2 := (h.1.lt g hb).1
    rcases hr g e.symm with h3 | h3 <;> omega
theorem OwJ.below {B : Nat} (h : OwJ t lo hi W sv zs) (hb : Below B W W') (hB : hi ≤ B) : OwJ t lo hi W' sv zs := by
  refine ⟨⟨h.1.1, ?_⟩, h.2⟩
  rcases h.1.2 with h0 | ⟨g, cap, cur, rfl, hg, hgg, rest⟩
  · exact .inl h0
  · have := h.2 g rfl
    exact .inr ⟨g, cap, cur, rfl, hg, (hb.block g (by omega)).trans hgg, rest⟩
theorem OwJ.more (h : OwJ t lo hi W sv zs) (hl : lo' ≤ lo) (hh : hi ≤ hi') : OwJ t lo' hi' W sv zs := by
  refine ⟨⟨h.1.1, ?_⟩, fun g e => by have := h.2 g e; omega⟩
  rcases h.1.2 with h0 | ⟨g, cap, cur, rfl, hg, rest⟩
  · exact .inl h0
  · exact .inr ⟨g, cap, cur, rfl, by omega, rest⟩
theorem OwJ.of_own (h : W.ownsRow lo t 2 sv zs.length (jbsCells zs)) : OwJ t lo W.heap.size W sv zs := ⟨h, fun g e => (h.lt g e).2⟩
theorem RdJ.grown {A : Option Addr} (h : RdJ lo hi W A zs) {row : Option Nat} (hg : W.grownBy W' row) (hr : ∀ r, row = some r → r < lo ∨ hi ≤ r) : RdJ lo hi W' A zs := fun hn => by
  obtain ⟨b, off, e, h1, h2, hc⟩ := h hn
  exact ⟨b, off, e, h1, h2, fun j hj => (hc j hj).grown hg (fun r e2 => by have := hr r e2; omega)⟩
end

/-- A SLICE OF SECTIONS AS AN ARGUMENT: it reads as zs in w; no more of them than the laws let in. -/
def ArgJ (w : World) (A : Option Addr) (c : Nat) (zs : List Jbs) : Prop := zs.length ≤ 2097152 ∧ zs.length ≤ c ∧ c ≤ maxLen ∧ RdJ 0 w.heap.size w A zs
theorem ArgJ.go {w w' : World} {A : Option Addr} {c : Nat} {zs : List Jbs} (h : ArgJ w A c zs) (hb : Below w.heap.size w w') : ArgJ w' A c zs :=
  ⟨h.1, h.2.1, h.2.2.1, (h.2.2.2.below hb).more (Nat.le_refl _) hb.size⟩
theorem ArgJ.len {w : World} {A : Option Addr} {c : Nat} {zs : List Jbs} (h : ArgJ w A c zs) : zs.length ≤ 2097152 := h.1
theorem ArgJ.rd {w : World} {A : Option Addr} {c : Nat} {zs : List Jbs} (h : ArgJ w A c zs) : RdJ 0 w.heap.size w A zs := h.2.2.2
theorem ArgJ.nil (w : World) : ArgJ w none 0 [] := ⟨by simp, by simp, by simp, RdJ.nil⟩
theorem ArgJ.grown {w w' : World} {A : Option Addr} {c : Nat} {zs : List Jbs} (h : ArgJ w A c zs) {lo hi : Nat} (hr : RdJ lo hi w A zs) (hw : hi ≤ w.heap.size) {row : Option Nat} (hg : w.grownBy w' row) (hrow : ∀ r, row = some r → r < lo ∨ hi ≤ r) : ArgJ w' A c zs :=
  ⟨h.1, h.2.1, h.2.2.1, (hr.grown hg hrow).more (Nat.zero_le _) (Nat.le_trans hw hg.size)⟩

/-- WHAT A FUNCTION THAT HANDS BACK A NEW SLICE LEAVES: f of the slice value that holds zs in new memory; nothing that was there has turned. -/
def RetJ (t : TypeId) (f : Value → Value) (zs : List Jbs) (w : World) (e : Ending) (w' : World) : Prop :=
  ∃ A c, e = .returned (f (.slice A zs.length c)) ∧ ArgJ w' A c zs ∧ OwJ t w.heap.size w'.heap.size w' (.slice A zs.length c) zs ∧ Below w.heap.size w w'
theorem OwJ.arg {t : TypeId} {lo hi : Nat} {w : World} {A : Option Addr} {c : Nat} {zs : List Jbs} (h : OwJ t lo hi w (.slice A zs.length c) zs) (hl : zs.length ≤ 2097152) (hh : hi ≤ w.heap.size) : ArgJ w A c zs := by
  obtain ⟨A', c', e, h1, h2, h3⟩ := h.form
  injection e with e1 e2 e3
  subst e1; subst e3
  exact ⟨hl, h1, h2, h3.more (Nat.zero_le _) hh⟩
theorem RetJ.mk {t : TypeId} {f : Value → Value} {zs : List Jbs} {w w' : World} {sv : Value} (hl : zs.length ≤ 2097152) (h : w'.ownsRow w.heap.size t 2 sv zs.length (jbsCells zs)) (hb : Below w.heap.size w w') : RetJ t f zs w (.returned (f sv)) w' := by
  have ho := OwJ.of_own h
  obtain ⟨A, c, rfl, _, _, _⟩ := ho.form
  exact ⟨A, c, rfl, ho.arg hl (Nat.le_refl _), ho, hb⟩
theorem RetJ.nil {t : TypeId} {f : Value → Value} {w w' : World} (hb : Below w.heap.size w w') : RetJ t f [] w (.returned (f (.slice none 0 0))) w' :=
  ⟨none, 0, rfl, ArgJ.nil _, OwJ.nil, hb⟩
/-- A SLICE THAT THE LAW HOLDS: where its cells lie is known, so that it is kept whatever is written elsewhere. -/
def HeldJ (lo hi : Nat) (w : World) (A : Option Addr) (c : Nat) (zs : List Jbs) : Prop := RdJ lo hi w A zs ∧ hi ≤ w.heap.size ∧ zs.length ≤ 2097152 ∧ zs.length ≤ c ∧ c ≤ maxLen
section
variable {lo hi : Nat} {w w' : World} {A : Option Addr} {c : Nat} {zs : List Jbs}
theorem HeldJ.go (h : HeldJ lo hi w A c zs) (hb : Below w.heap.size w w') : HeldJ lo hi w' A c zs :=
  ⟨h.1.below (hb.mono h.2.1), Nat.le_trans h.2.1 hb.size, h.2.2⟩
theorem HeldJ.grown (h : HeldJ lo hi w A c zs) {row : Option Nat} (hg : w.grownBy w' row) (hr : ∀ r, row = some r → r < lo ∨ hi ≤ r) : HeldJ lo hi w' A c zs :=
  ⟨h.1.grown hg hr, Nat.le_trans h.2.1 hg.size, h.2.2⟩
theorem HeldJ.arg (h : HeldJ lo hi w A c zs) : ArgJ w A c zs := ⟨h.2.2.1, h.2.2.2.1, h.2.2.2.2, h.1.more (Nat.zero_le _) h.2.1⟩
theorem ArgJ.held (h : ArgJ w A c zs) : HeldJ 0 w.heap.size w A c zs := ⟨h.2.2.2, Nat.le_refl _, h.1, h.2.1, h.2.2.1⟩
theorem OwJ.held {t : TypeId} (h : OwJ t lo hi w (.slice A zs.length c) zs) (hh : hi ≤ w.heap.size) (hl : zs.length ≤ 2097152) : HeldJ lo hi w A c zs := by
  obtain ⟨A', c', e, h1, h2, h3⟩ := h.form
  injection e with e1 e2 e3
  subst e1; subst e3
  exact ⟨h3, hh, hl, h1, h2⟩
theorem OwJ.range {t : TypeId} {sv : Value} (h : OwJ t lo hi w sv zs) : ∀ r, sv.ownBlock = some r → lo ≤ r ∧ r < hi := fun r e => ⟨(h.1.lt r e).1, h.2 r e⟩
theorem OwJ.go {t : TypeId} {sv : Value} (h : OwJ t lo hi w sv zs) (hb : Below w.heap.size w w') (hh : hi ≤ w.heap.size) : OwJ t lo hi w' sv zs := h.below hb hh
end

end Go.Proofs.YtodboccadccpfaaDoor
