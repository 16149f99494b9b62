/-
  Words for memory: a slice of rots that reads as a list. Nothing here speaks of the program.
-/
import Derived.Test.YtjboamhjfncgdaaMem
import Derived.Test.YtjboamhjfncgdaaSec
namespace Go.Proofs.Ytjboamhjfncgdaa
open Go.RowKit

/-- a value of the struct -/
structure Rot where
  a : Int
  b : Int
  c : Int
  d : Int
deriving DecidableEq
theorem Rot.ext_ {a b : Rot} (h0 : a.a = b.a) (h1 : a.b = b.b) (h2 : a.c = b.c) (h3 : a.d = b.d) : a = b := by
  cases a; cases b; simp_all
def Rot.zero : Rot := ⟨0, 0, 0, 0⟩
def Rot.v (s : Rot) : Value := .agg #[.int .i64 s.a, .int .i64 s.b, .int .i64 s.c, .int .i64 s.d]
def rotAt (ss : List Rot) (k : Nat) : Rot := ss[k]?.getD Rot.zero
theorem rotAt_lt {ss : List Rot} {k : Nat} (h : k < ss.length) : rotAt ss k = ss[k] := by simp [rotAt, h]

/-- the cells of one rot -/
def RotAt (W : World) (b o : Nat) (s : Rot) : Prop := W.cell? ⟨b, o, none⟩ = some (.int .i64 s.a) ∧ W.cell? ⟨b, o + 1, none⟩ = some (.int .i64 s.b) ∧ W.cell? ⟨b, o + 2, none⟩ = some (.int .i64 s.c) ∧ W.cell? ⟨b, o + 3, none⟩ = some (.int .i64 s.d)
theorem RotAt.below {hi : Nat} {W W' : World} {b o : Nat} {s : Rot} (h : RotAt W b o s) (hb : Below hi W W') (h2 : b < hi) : RotAt W' b o s :=
  ⟨(hb.cell (p := ⟨b, o, none⟩) h2).trans h.1, (hb.cell (p := ⟨b, o + 1, none⟩) h2).trans h.2.1, (hb.cell (p := ⟨b, o + 2, none⟩) h2).trans h.2.2.1, (hb.cell (p := ⟨b, o + 3, none⟩) h2).trans h.2.2.2⟩
theorem RotAt.grown {W W' : World} {b o : Nat} {s : Rot} (h : RotAt W b o s) {row : Option Nat} (hg : W.grownBy W' row) (hr : ∀ r, row = some r → b ≠ r) : RotAt W' b o s := by
  have hbl := hg.block b (World.block_lt_of_cell? _ _ h.1) (fun e2 => hr b e2.symm rfl)
  exact ⟨(World.cell?_of_block (a := ⟨b, o, none⟩) hbl).trans h.1, (World.cell?_of_block (a := ⟨b, o + 1, none⟩) hbl).trans h.2.1, (World.cell?_of_block (a := ⟨b, o + 2, none⟩) hbl).trans h.2.2.1, (World.cell?_of_block (a := ⟨b, o + 3, none⟩) hbl).trans h.2.2.2⟩

def rotCell (s : Rot) : List Value := [.int .i64 s.a, .int .i64 s.b, .int .i64 s.c, .int .i64 s.d]
def rotCells (ss : List Rot) : List Value := ss.flatMap rotCell
theorem rotCells_nil : rotCells [] = [] := rfl
theorem rotCells_cons (s : Rot) (r : List Rot) : rotCells (s :: r) = .int .i64 s.a :: .int .i64 s.b :: .int .i64 s.c :: .int .i64 s.d :: rotCells r := rfl
theorem rotCells_append (a b : List Rot) : rotCells (a ++ b) = rotCells a ++ rotCells b := by simp [rotCells]
theorem rotCells_one (s : Rot) : rotCells [s] = [.int .i64 s.a, .int .i64 s.b, .int .i64 s.c, .int .i64 s.d] := rfl
theorem rotCells_length (ss : List Rot) : (rotCells ss).length = ss.length * 4 := by
  induction ss with
  | nil => rfl
  | cons s r ih => rw [rotCells_cons]; simp [ih]; omega
theorem rotCells_at (ss : List Rot) : ∀ (j i : Nat), j < ss.length → i < 4 → (rotCells ss)[j * 4 + i]? = (rotCell (rotAt ss j))[i]? := by
  induction ss with
  | nil => intro j i h; simp at h
  | cons s r ih =>
    intro j i hj hi
    cases j with
    | zero =>
      rw [show 0 * 4 + i = i by omega]
      show ((rotCell s) ++ rotCells r)[i]? = _
      rw [List.getElem?_append_left (by simp [rotCell]; omega)]
      rfl
    | succ j =>
      rw [show (j + 1) * 4 + i = 4 + (j * 4 + i) by omega]
      show ((rotCell s) ++ rotCells r)[4 + (j * 4 + i)]? = _
      rw [List.getElem?_append_right (by simp [rotCell]), show 4 + (j * 4 + i) - (rotCell s).length = j * 4 + i by simp [rotCell], ih j i (by simpa using hj) hi]
      rfl
theorem rotCells_0 {ss : List Rot} {j : Nat} (h : j < ss.length) : (rotCells ss)[j * 4]? = some (.int .i64 (rotAt ss j).a) := rotCells_at ss j 0 h (by omega)
theorem rotCells_1 {ss : List Rot} {j : Nat} (h : j < ss.length) : (rotCells ss)[j * 4 + 1]? = some (.int .i64 (rotAt ss j).b) := rotCells_at ss j 1 h (by omega)
theorem rotCells_2 {ss : List Rot} {j : Nat} (h : j < ss.length) : (rotCells ss)[j * 4 + 2]? = some (.int .i64 (rotAt ss j).c) := rotCells_at ss j 2 h (by omega)
theorem rotCells_3 {ss : List Rot} {j : Nat} (h : j < ss.length) : (rotCells ss)[j * 4 + 3]? = some (.int .i64 (rotAt ss j).d) := rotCells_at ss j 3 h (by omega)
theorem rotCell_new (w : World) (s : Rot) (t : TypeId) : ∀ j u, (rotCell s)[j]? = some u → (w.alloc (.cells #[.int .i64 s.a, .int .i64 s.b, .int .i64 s.c, .int .i64 s.d] t)).cell? ((⟨w.heap.size, 0, none⟩ : Addr).add j) = some u := by
  intro j u hu
  have h := cell_of_row (w.alloc (.cells #[.int .i64 s.a, .int .i64 s.b, .int .i64 s.c, .int .i64 s.d] t)) w.heap.size j _ _ _ (heap_alloc_new w _)
  rw [show (⟨w.heap.size, 0, none⟩ : Addr).add j = ⟨w.heap.size, j, none⟩ by unfold Addr.add; split <;> simp_all, h, ← hu]
  simp [rotCell]
theorem rotCell_new1 (w : World) (o : Obj) (s : Rot) (t : TypeId) : ∀ j u, (rotCell s)[j]? = some u → ((w.alloc o).alloc (.cells #[.int .i64 s.a, .int .i64 s.b, .int .i64 s.c, .int .i64 s.d] t)).cell? ((⟨w.heap.size + 1, 0, none⟩ : Addr).add j) = some u := by
  have h := rotCell_new (w.alloc o) s t
  have e : (w.alloc o).heap.size = w.heap.size + 1 := by simp
  rw [e] at h
  exact h
theorem rotCell_one (s : Rot) : ∀ u ∈ rotCell s, u.oneCell' = true := by
  intro u hu
  simp only [rotCell, List.mem_cons, List.not_mem_nil, or_false] at hu
  rcases hu with rfl | rfl | rfl | rfl <;> rfl
theorem rotCells_snoc (ss : List Rot) (s : Rot) : rotCells (ss ++ [s]) = rotCells ss ++ rotCell s := by rw [rotCells_append]; simp [rotCells]
theorem rotCells_oneCell (ss : List Rot) : ∀ u ∈ rotCells ss, u.oneCell' = true := by
  intro u hu
  unfold rotCells rotCell at hu
  rw [List.mem_flatMap] at hu
  obtain ⟨s, _, hs⟩ := hu
  simp only [List.mem_cons, List.not_mem_nil, or_false] at hs
  rcases hs with rfl | rfl | rfl | rfl <;> rfl

/-- THE SLICE VALUE '.slice A zs.length c' READS AS THE SECTIONS zs; its cells lie in one block from lo on, below hi. -/
def RdK (lo hi : Nat) (W : World) (A : Option Addr) (zs : List Rot) : Prop :=
  0 < zs.length → ∃ b off, A = some ⟨b, off, none⟩ ∧ lo ≤ b ∧ b < hi ∧ ∀ j, j < zs.length → RotAt W b (off + j * 4) (rotAt zs j)

section
variable {lo hi lo' hi' : Nat} {W W' : World} {A : Option Addr} {zs : List Rot}
theorem RdK.nil : RdK lo hi W A [] := fun h => absurd h (by simp)
theorem RdK.more (h : RdK lo hi W A zs) (hl : lo' ≤ lo) (hh : hi ≤ hi') : RdK lo' hi' W A zs := fun hn => by
  obtain ⟨b, off, e, h1, h2, hc⟩ := h hn
  exact ⟨b, off, e, by omega, by omega, hc⟩
theorem RdK.below (h : RdK lo hi W A zs) (hb : Below hi W W') : RdK lo hi W' A zs := fun hn => by
  obtain ⟨b, off, e, h1, h2, hc⟩ := h hn
  exact ⟨b, off, e, h1, h2, fun j hj => (hc j hj).below hb h2⟩
/-- what is asked for in a round alone -/
theorem RdK.at_ (h : RdK lo hi W A zs) {k : Nat} (hk : k < zs.length) : ∃ b off, A = some ⟨b, off, none⟩ ∧ lo ≤ b ∧ b < hi ∧ RotAt W b (off + k * 4) (rotAt zs k) := by
  obtain ⟨b, off, e, h1, h2, hc⟩ := h (by omega)
  exact ⟨b, off, e, h1, h2, hc k hk⟩
end

/-- THE SLICE VALUE sv HOLDS zs IN A BLOCK OF ITS OWN, from lo on, below hi (or it is nil and there are none). t: the type of ints. -/
def OwK (t : TypeId) (lo hi : Nat) (W : World) (sv : Value) (zs : List Rot) : Prop :=
  W.ownsRow lo t 4 sv zs.length (rotCells zs) ∧ ∀ g, sv.ownBlock = some g → g < hi

section
variable {t : TypeId} {lo hi lo' hi' : Nat} {W W' : World} {sv : Value} {zs : List Rot}
theorem OwK.nil : OwK t lo hi W (.slice none 0 0) [] := ⟨W.ownsRow_nil _ _ _, fun g h => by simp [Value.ownBlock] at h⟩
theorem OwK.own (h : OwK t lo hi W sv zs) : W.ownsRow lo t 4 sv zs.length (rotCells zs) := h.1
theorem OwK.form (h : OwK t lo hi W sv zs) : ∃ A c, sv = .slice A zs.length c ∧ zs.length ≤ c ∧ c ≤ maxLen ∧ RdK lo hi W A zs := by
  have ho := h.1
  rcases h.1.2 with ⟨rfl, h0⟩ | ⟨g, cap, cur, rfl, hg, hgg, hn, hm, hs, ht⟩
  · exact ⟨none, 0, by rw [h0], by omega, by simp [maxLen], fun hp => by omega⟩
  · refine ⟨some ⟨g, 0, none⟩, cap, rfl, hn, hm, fun _ => ⟨g, 0, rfl, hg, h.2 g rfl, fun j hj => ?_⟩⟩
    have key : ∀ i u, (rotCells zs)[i]? = some u → W.cell? ⟨g, i, none⟩ = some u := fun i u hu => by
      have := ho.cells (g := g) rfl i u hu
      rwa [show (⟨g, 0, none⟩ : Addr).add i = ⟨g, i, none⟩ by unfold Addr.add; split <;> simp_all] at this
    rw [Nat.zero_add]
    exact ⟨key _ _ (rotCells_0 hj), key _ _ (rotCells_1 hj), key _ _ (rotCells_2 hj), key _ _ (rotCells_3 hj)⟩
theorem OwK.kept (h : OwK t lo hi W sv zs) {row : Option Nat} (hg : W.grownBy W' row) (hr : ∀ r, row = some r → r < lo ∨ hi ≤ r) : OwK t lo hi W' sv zs := by
  refine ⟨h.1.kept hg ?_, h.2⟩
  cases hb : sv.ownBlock with
  | none => exact .inl rfl
  | some g =>
    refine .inr fun e => ?_
    have h1 := h.2 g hb
    have h2 := (h.1.lt g hb).1
    rcases hr g e.symm with h3 | h3 <;> omega
theorem OwK.below {B : Nat} (h : OwK t lo hi W sv zs) (hb : Below B W W') (hB : hi ≤ B) : OwK t lo hi W' sv zs := by
  refine ⟨⟨h.1.1, ?_⟩, h.2⟩
  rcases h.1.2 with h0 | ⟨g, cap, cur, rfl, hg, hgg, rest⟩
  · exact .inl h0
  · have := h.2 g rfl
    exact .inr ⟨g, cap, cur, rfl, hg, (hb.block g (by omega)).trans hgg, rest⟩
theorem OwK.more (h : OwK t lo hi W sv zs) (hl : lo' ≤ lo) (hh : hi ≤ hi') : OwK t lo' hi' W sv zs := by
  refine ⟨⟨h.1.1, ?_⟩, fun g e => by have := h.2 g e; omega⟩
  rcases h.1.2 with h0 | ⟨g, cap, cur, rfl, hg, rest⟩
  · exact .inl h0
  · exact .inr ⟨g, cap, cur, rfl, by omega, rest⟩
theorem OwK.of_own (h : W.ownsRow lo t 4 sv zs.length (rotCells zs)) : OwK t lo W.heap.size W sv zs := ⟨h, fun g e => (h.lt g e).2⟩
theorem RdK.grown {A : Option Addr} (h : RdK lo hi W A zs) {row : Option Nat} (hg : W.grownBy W' row) (hr : ∀ r, row = some r → r < lo ∨ hi ≤ r) : RdK lo hi W' A zs := fun hn => by
  obtain ⟨b, off, e, h1, h2, hc⟩ := h hn
  exact ⟨b, off, e, h1, h2, fun j hj => (hc j hj).grown hg (fun r e2 => by have := hr r e2; omega)⟩
end

/-- A SLICE OF SECTIONS AS AN ARGUMENT: it reads as zs in w; no more of them than the laws let in. -/
def ArgK (w : World) (A : Option Addr) (c : Nat) (zs : List Rot) : Prop := zs.length ≤ 2097152 ∧ zs.length ≤ c ∧ c ≤ maxLen ∧ RdK 0 w.heap.size w A zs
theorem ArgK.go {w w' : World} {A : Option Addr} {c : Nat} {zs : List Rot} (h : ArgK w A c zs) (hb : Below w.heap.size w w') : ArgK w' A c zs :=
  ⟨h.1, h.2.1, h.2.2.1, (h.2.2.2.below hb).more (Nat.le_refl _) hb.size⟩
theorem ArgK.len {w : World} {A : Option Addr} {c : Nat} {zs : List Rot} (h : ArgK w A c zs) : zs.length ≤ 2097152 := h.1
theorem ArgK.rd {w : World} {A : Option Addr} {c : Nat} {zs : List Rot} (h : ArgK w A c zs) : RdK 0 w.heap.size w A zs := h.2.2.2
theorem ArgK.nil (w : World) : ArgK w none 0 [] := ⟨by simp, by simp, by simp, RdK.nil⟩
theorem ArgK.grown {w w' : World} {A : Option Addr} {c : Nat} {zs : List Rot} (h : ArgK w A c zs) {lo hi : Nat} (hr : RdK lo hi w A zs) (hw : hi ≤ w.heap.size) {row : Option Nat} (hg : w.grownBy w' row) (hrow : ∀ r, row = some r → r < lo ∨ hi ≤ r) : ArgK w' A c zs :=
  ⟨h.1, h.2.1, h.2.2.1, (hr.grown hg hrow).more (Nat.zero_le _) (Nat.le_trans hw hg.size)⟩

/-- WHAT A FUNCTION THAT HANDS BACK A NEW SLICE LEAVES: f of the slice value that holds zs in new memory; nothing that was there has turned. -/
def RetK (t : TypeId) (f : Value → Value) (zs : List Rot) (w : World) (e : Ending) (w' : World) : Prop :=
  ∃ A c, e = .returned (f (.slice A zs.length c)) ∧ ArgK w' A c zs ∧ OwK t w.heap.size w'.heap.size w' (.slice A zs.length c) zs ∧ Below w.heap.size w w'
theorem OwK.arg {t : TypeId} {lo hi : Nat} {w : World} {A : Option Addr} {c : Nat} {zs : List Rot} (h : OwK t lo hi w (.slice A zs.length c) zs) (hl : zs.length ≤ 2097152) (hh : hi ≤ w.heap.size) : ArgK w A c zs := by
  obtain ⟨A', c', e, h1, h2, h3⟩ := h.form
  injection e with e1 e2 e3
  subst e1; subst e3
  exact ⟨hl, h1, h2, h3.more (Nat.zero_le _) hh⟩
theorem RetK.mk {t : TypeId} {f : Value → Value} {zs : List Rot} {w w' : World} {sv : Value} (hl : zs.length ≤ 2097152) (h : w'.ownsRow w.heap.size t 4 sv zs.length (rotCells zs)) (hb : Below w.heap.size w w') : RetK t f zs w (.returned (f sv)) w' := by
  have ho := OwK.of_own h
  obtain ⟨A, c, rfl, _, _, _⟩ := ho.form
  exact ⟨A, c, rfl, ho.arg hl (Nat.le_refl _), ho, hb⟩
theorem RetK.nil {t : TypeId} {f : Value → Value} {w w' : World} (hb : Below w.heap.size w w') : RetK t f [] w (.returned (f (.slice none 0 0))) w' :=
  ⟨none, 0, rfl, ArgK.nil _, OwK.nil, hb⟩
/-- A SLICE THAT THE LAW HOLDS: where its cells lie is known, so that it is kept whatever is written elsewhere. -/
def HeldK (lo hi : Nat) (w : World) (A : Option Addr) (c : Nat) (zs : List Rot) : Prop := RdK lo hi w A zs ∧ hi ≤ w.heap.size ∧ zs.length ≤ 2097152 ∧ zs.length ≤ c ∧ c ≤ maxLen
section
variable {lo hi : Nat} {w w' : World} {A : Option Addr} {c : Nat} {zs : List Rot}
theorem HeldK.go (h : HeldK lo hi w A c zs) (hb : Below w.heap.size w w') : HeldK lo hi w' A c zs :=
  ⟨h.1.below (hb.mono h.2.1), Nat.le_trans h.2.1 hb.size, h.2.2⟩
theorem HeldK.grown (h : HeldK lo hi w A c zs) {row : Option Nat} (hg : w.grownBy w' row) (hr : ∀ r, row = some r → r < lo ∨ hi ≤ r) : HeldK lo hi w' A c zs :=
  ⟨h.1.grown hg hr, Nat.le_trans h.2.1 hg.size, h.2.2⟩
theorem HeldK.arg (h : HeldK lo hi w A c zs) : ArgK w A c zs := ⟨h.2.2.1, h.2.2.2.1, h.2.2.2.2, h.1.more (Nat.zero_le _) h.2.1⟩
theorem ArgK.held (h : ArgK w A c zs) : HeldK 0 w.heap.size w A c zs := ⟨h.2.2.2, Nat.le_refl _, h.1, h.2.1, h.2.2.1⟩
theorem OwK.held {t : TypeId} (h : OwK t lo hi w (.slice A zs.length c) zs) (hh : hi ≤ w.heap.size) (hl : zs.length ≤ 2097152) : HeldK lo hi w A c zs := by
  obtain ⟨A', c', e, h1, h2, h3⟩ := h.form
  injection e with e1 e2 e3
  subst e1; subst e3
  exact ⟨h3, hh, hl, h1, h2⟩
theorem OwK.range {t : TypeId} {sv : Value} (h : OwK t lo hi w sv zs) : ∀ r, sv.ownBlock = some r → lo ≤ r ∧ r < hi := fun r e => ⟨(h.1.lt r e).1, h.2 r e⟩
theorem OwK.go {t : TypeId} {sv : Value} (h : OwK t lo hi w sv zs) (hb : Below w.heap.size w w') (hh : hi ≤ w.heap.size) : OwK t lo hi w' sv zs := h.below hb hh
end

end Go.Proofs.Ytjboamhjfncgdaa
