/-
  Words for memory: a slice of sections that reads as a list. Nothing here speaks of the program.
-/
import Derived.Test.YtodboccadccpfaaMem
import Derived.Test.YtodboccadccpfaaSec
namespace Go.Proofs.Ytodboccadccpfaa
open Go.RowKit

/-- a section's three cells -/
def SecAt (W : World) (b o : Nat) (s : Sec) : Prop := W.cell? ⟨b, o, none⟩ = some (.int .i64 s.m) ∧ W.cell? ⟨b, o + 1, none⟩ = some (.int .i64 s.k) ∧ W.cell? ⟨b, o + 2, none⟩ = some (.int .i64 s.o)
theorem SecAt.below {hi : Nat} {W W' : World} {b o : Nat} {s : Sec} (h : SecAt W b o s) (hb : Below hi W W') (h2 : b < hi) : SecAt W' b o s :=
  ⟨(hb.cell (p := ⟨b, o, none⟩) h2).trans h.1, (hb.cell (p := ⟨b, o + 1, none⟩) h2).trans h.2.1, (hb.cell (p := ⟨b, o + 2, none⟩) h2).trans h.2.2⟩
theorem SecAt.grown {W W' : World} {b o : Nat} {s : Sec} (h : SecAt W b o s) {row : Option Nat} (hg : W.grownBy W' row) (hr : ∀ r, row = some r → b ≠ r) : SecAt W' b o s := by
  have hbl := hg.block b (World.block_lt_of_cell? _ _ h.1) (fun e2 => hr b e2.symm rfl)
  exact ⟨(World.cell?_of_block (a := ⟨b, o, none⟩) hbl).trans h.1, (World.cell?_of_block (a := ⟨b, o + 1, none⟩) hbl).trans h.2.1, (World.cell?_of_block (a := ⟨b, o + 2, none⟩) hbl).trans h.2.2⟩

def secCell (s : Sec) : List Value := [.int .i64 s.m, .int .i64 s.k, .int .i64 s.o]
def secCells (ss : List Sec) : List Value := ss.flatMap secCell
theorem secCells_nil : secCells [] = [] := rfl
theorem secCells_cons (s : Sec) (r : List Sec) : secCells (s :: r) = .int .i64 s.m :: .int .i64 s.k :: .int .i64 s.o :: secCells r := rfl
theorem secCells_append (a b : List Sec) : secCells (a ++ b) = secCells a ++ secCells b := by simp [secCells]
theorem secCells_one (s : Sec) : secCells [s] = [.int .i64 s.m, .int .i64 s.k, .int .i64 s.o] := rfl
theorem secCells_length (ss : List Sec) : (secCells ss).length = ss.length * 3 := by
  induction ss with
  | nil => rfl
  | cons s r ih => rw [secCells_cons]; simp [ih]; omega
theorem secCells_at (ss : List Sec) : ∀ (j i : Nat), j < ss.length → i < 3 → (secCells ss)[j * 3 + i]? = (secCell (secAt ss j))[i]? := by
  induction ss with
  | nil => intro j i h; simp at h
  | cons s r ih =>
    intro j i hj hi
    cases j with
    | zero =>
      rw [show 0 * 3 + i = i by omega]
      show ((secCell s) ++ secCells r)[i]? = _
      rw [List.getElem?_append_left (by simp [secCell]; omega)]
      rfl
    | succ j =>
      rw [show (j + 1) * 3 + i = 3 + (j * 3 + i) by omega]
      show ((secCell s) ++ secCells r)[3 + (j * 3 + i)]? = _
      rw [List.getElem?_append_right (by simp [secCell]), show 3 + (j * 3 + i) - (secCell s).length = j * 3 + i by simp [secCell], ih j i (by simpa using hj) hi]
      rfl
theorem secCells_0 {ss : List Sec} {j : Nat} (h : j < ss.length) : (secCells ss)[j * 3]? = some (.int .i64 (secAt ss j).m) := secCells_at ss j 0 h (by omega)
theorem secCells_1 {ss : List Sec} {j : Nat} (h : j < ss.length) : (secCells ss)[j * 3 + 1]? = some (.int .i64 (secAt ss j).k) := secCells_at ss j 1 h (by omega)
theorem secCells_2 {ss : List Sec} {j : Nat} (h : j < ss.length) : (secCells ss)[j * 3 + 2]? = some (.int .i64 (secAt ss j).o) := secCells_at ss j 2 h (by omega)
theorem secCell_new (w : World) (s : Sec) (t : TypeId) : ∀ j u, (secCell s)[j]? = some u → (w.alloc (.cells #[.int .i64 s.m, .int .i64 s.k, .int .i64 s.o] t)).cell? ((⟨w.heap.size, 0, none⟩ : Addr).add j) = some u := by
  intro j u hu
  have h := cell_of_row (w.alloc (.cells #[.int .i64 s.m, .int .i64 s.k, .int .i64 s.o] t)) w.heap.size j _ _ _ (heap_alloc_new w _)
  rw [show (⟨w.heap.size, 0, none⟩ : Addr).add j = ⟨w.heap.size, j, none⟩ by unfold Addr.add; split <;> simp_all, h, ← hu]
  simp [secCell]
theorem secCell_new1 (w : World) (o : Obj) (s : Sec) (t : TypeId) : ∀ j u, (secCell s)[j]? = some u → ((w.alloc o).alloc (.cells #[.int .i64 s.m, .int .i64 s.k, .int .i64 s.o] t)).cell? ((⟨w.heap.size + 1, 0, none⟩ : Addr).add j) = some u := by
  have h := secCell_new (w.alloc o) s t
  have e : (w.alloc o).heap.size = w.heap.size + 1 := by simp
  rw [e] at h
  exact h
theorem secCell_one (s : Sec) : ∀ u ∈ secCell s, u.oneCell' = true := by
  intro u hu
  simp only [secCell, List.mem_cons, List.not_mem_nil, or_false] at hu
  rcases hu with rfl | rfl | rfl <;> rfl
theorem secCells_snoc (ss : List Sec) (s : Sec) : secCells (ss ++ [s]) = secCells ss ++ secCell s := by rw [secCells_append]; simp [secCells]
theorem secCells_oneCell (ss : List Sec) : ∀ u ∈ secCells ss, u.oneCell' = true := by
  intro u hu
  unfold secCells secCell at hu
  rw [List.mem_flatMap] at hu
  obtain ⟨s, _, hs⟩ := hu
  simp only [List.mem_cons, List.not_mem_nil, or_false] at hs
  rcases hs with rfl | rfl | rfl <;> rfl

/-- THE SLICE VALUE '.slice A zs.length c' READS AS THE SECTIONS zs; its cells lie in one block from lo on, below hi. -/
def RdC (lo hi : Nat) (W : World) (A : Option Addr) (zs : List Sec) : Prop :=
  0 < zs.length → ∃ b off, A = some ⟨b, off, none⟩ ∧ lo ≤ b ∧ b < hi ∧ ∀ j, j < zs.length → SecAt W b (off + j * 3) (secAt zs j)

section
variable {lo hi lo' hi' : Nat} {W W' : World} {A : Option Addr} {zs : List Sec}
theorem RdC.nil : RdC lo hi W A [] := fun h => absurd h (by simp)
theorem RdC.more (h : RdC lo hi W A zs) (hl : lo' ≤ lo) (hh : hi ≤ hi') : RdC lo' hi' W A zs := fun hn => by
  obtain ⟨b, off, e, h1, h2, hc⟩ := h hn
  exact ⟨b, off, e, by omega, by omega, hc⟩
theorem RdC.below (h : RdC lo hi W A zs) (hb : Below hi W W') : RdC lo hi W' A zs := fun hn => by
  obtain ⟨b, off, e, h1, h2, hc⟩ := h hn
  exact ⟨b, off, e, h1, h2, fun j hj => (hc j hj).below hb h2⟩
/-- what is asked for in a round alone -/
theorem RdC.at_ (h : RdC lo hi W A zs) {k : Nat} (hk : k < zs.length) : ∃ b off, A = some ⟨b, off, none⟩ ∧ lo ≤ b ∧ b < hi ∧ SecAt W b (off + k * 3) (secAt zs k) := by
  obtain ⟨b, off, e, h1, h2, hc⟩ := h (by omega)
  exact ⟨b, off, e, h1, h2, hc k hk⟩
end

/-- THE SLICE VALUE sv HOLDS zs IN A BLOCK OF ITS OWN, from lo on, below hi (or it is nil and there are none). t: the type of ints. -/
def OwC (t : TypeId) (lo hi : Nat) (W : World) (sv : Value) (zs : List Sec) : Prop :=
  W.ownsRow lo t 3 sv zs.length (secCells zs) ∧ ∀ g, sv.ownBlock = some g → g < hi

section
variable {t : TypeId} {lo hi lo' hi' : Nat} {W W' : World} {sv : Value} {zs : List Sec}
theorem OwC.nil : OwC t lo hi W (.slice none 0 0) [] := ⟨W.ownsRow_nil _ _ _, fun g h => by simp [Value.ownBlock] at h⟩
theorem OwC.own (h : OwC t lo hi W sv zs) : W.ownsRow lo t 3 sv zs.length (secCells zs) := h.1
theorem OwC.form (h : OwC t lo hi W sv zs) : ∃ A c, sv = .slice A zs.length c ∧ zs.length ≤ c ∧ c ≤ maxLen ∧ RdC lo hi W A zs := by
  have ho := h.1
  rcases h.1.2 with ⟨rfl, h0⟩ | ⟨g, cap, cur, rfl, hg, hgg, hn, hm, hs, ht⟩
  · exact ⟨none, 0, by rw [h0], by omega, by simp [maxLen], fun hp => by omega⟩
  · refine ⟨some ⟨g, 0, none⟩, cap, rfl, hn, hm, fun _ => ⟨g, 0, rfl, hg, h.2 g rfl, fun j hj => ?_⟩⟩
    have key : ∀ i u, (secCells zs)[i]? = some u → W.cell? ⟨g, i, none⟩ = some u := fun i u hu => by
      have := ho.cells (g := g) rfl i u hu
      rwa [show (⟨g, 0, none⟩ : Addr).add i = ⟨g, i, none⟩ by unfold Addr.add; split <;> simp_all] at this
    rw [Nat.zero_add]
    exact ⟨key _ _ (secCells_0 hj), key _ _ (secCells_1 hj), key _ _ (secCells_2 hj)⟩
theorem OwC.kept (h : OwC t lo hi W sv zs) {row : Option Nat} (hg : W.grownBy W' row) (hr : ∀ r, row = some r → r < lo ∨ hi ≤ r) : OwC t lo hi W' sv zs := by
  refine ⟨h.1.kept hg ?_, h.2⟩
  cases hb : sv.ownBlock with
  | none => exact .inl rfl
  | some g =>
    refine .inr fun e => ?_
    have h1 := h.2 g hb
    have h2 := (h.1.lt g hb).1
    rcases hr g e.symm with h3 | h3 <;> omega
theorem OwC.below {B : Nat} (h : OwC t lo hi W sv zs) (hb : Below B W W') (hB : hi ≤ B) : OwC t lo hi W' sv zs := by
  refine ⟨⟨h.1.1, ?_⟩, h.2⟩
  rcases h.1.2 with h0 | ⟨g, cap, cur, rfl, hg, hgg, rest⟩
  · exact .inl h0
  · have := h.2 g rfl
    exact .inr ⟨g, cap, cur, rfl, hg, (hb.block g (by omega)).trans hgg, rest⟩
theorem OwC.more (h : OwC t lo hi W sv zs) (hl : lo' ≤ lo) (hh : hi ≤ hi') : OwC t lo' hi' W sv zs := by
  refine ⟨⟨h.1.1, ?_⟩, fun g e => by have := h.2 g e; omega⟩
  rcases h.1.2 with h0 | ⟨g, cap, cur, rfl, hg, rest⟩
  · exact .inl h0
  · exact .inr ⟨g, cap, cur, rfl, by omega, rest⟩
theorem OwC.of_own (h : W.ownsRow lo t 3 sv zs.length (secCells zs)) : OwC t lo W.heap.size W sv zs := ⟨h, fun g e => (h.lt g e).2⟩
theorem RdC.grown {A : Option Addr} (h : RdC lo hi W A zs) {row : Option Nat} (hg : W.grownBy W' row) (hr : ∀ r, row = some r → r < lo ∨ hi ≤ r) : RdC lo hi W' A zs := fun hn => by
  obtain ⟨b, off, e, h1, h2, hc⟩ := h hn
  exact ⟨b, off, e, h1, h2, fun j hj => (hc j hj).grown hg (fun r e2 => by have := hr r e2; omega)⟩
end

/-- A SLICE OF SECTIONS AS AN ARGUMENT: it reads as zs in w; no more of them than the laws let in. -/
def ArgC (w : World) (A : Option Addr) (c : Nat) (zs : List Sec) : Prop := zs.length ≤ 2097152 ∧ zs.length ≤ c ∧ c ≤ maxLen ∧ RdC 0 w.heap.size w A zs
theorem ArgC.go {w w' : World} {A : Option Addr} {c : Nat} {zs : List Sec} (h : ArgC w A c zs) (hb : Below w.heap.size w w') : ArgC w' A c zs :=
  ⟨h.1, h.2.1, h.2.2.1, (h.2.2.2.below hb).more (Nat.le_refl _) hb.size⟩
theorem ArgC.len {w : World} {A : Option Addr} {c : Nat} {zs : List Sec} (h : ArgC w A c zs) : zs.length ≤ 2097152 := h.1
theorem ArgC.rd {w : World} {A : Option Addr} {c : Nat} {zs : List Sec} (h : ArgC w A c zs) : RdC 0 w.heap.size w A zs := h.2.2.2
theorem ArgC.nil (w : World) : ArgC w none 0 [] := ⟨by simp, by simp, by simp, RdC.nil⟩
theorem ArgC.grown {w w' : World} {A : Option Addr} {c : Nat} {zs : List Sec} (h : ArgC w A c zs) {lo hi : Nat} (hr : RdC lo hi w A zs) (hw : hi ≤ w.heap.size) {row : Option Nat} (hg : w.grownBy w' row) (hrow : ∀ r, row = some r → r < lo ∨ hi ≤ r) : ArgC w' A c zs :=
  ⟨h.1, h.2.1, h.2.2.1, (hr.grown hg hrow).more (Nat.zero_le _) (Nat.le_trans hw hg.size)⟩

/-- WHAT A FUNCTION THAT HANDS BACK A NEW SLICE LEAVES: f of the slice value that holds zs in new memory; nothing that was there has turned. -/
def RetC (t : TypeId) (f : Value → Value) (zs : List Sec) (w : World) (e : Ending) (w' : World) : Prop :=
  ∃ A c, e = .returned (f (.slice A zs.length c)) ∧ ArgC w' A c zs ∧ OwC t w.heap.size w'.heap.size w' (.slice A zs.length c) zs ∧ Below w.heap.size w w'
theorem OwC.arg {t : TypeId} {lo hi : Nat} {w : World} {A : Option Addr} {c : Nat} {zs : List Sec} (h : OwC t lo hi w (.slice A zs.length c) zs) (hl : zs.length ≤ 2097152) (hh : hi ≤ w.heap.size) : ArgC w A c zs := by
  obtain ⟨A', c', e, h1, h2, h3⟩ := h.form
  injection e with e1 e2 e3
  subst e1; subst e3
  exact ⟨hl, h1, h2, h3.more (Nat.zero_le _) hh⟩
theorem RetC.mk {t : TypeId} {f : Value → Value} {zs : List Sec} {w w' : World} {sv : Value} (hl : zs.length ≤ 2097152) (h : w'.ownsRow w.heap.size t 3 sv zs.length (secCells zs)) (hb : Below w.heap.size w w') : RetC t f zs w (.returned (f sv)) w' := by
  have ho := OwC.of_own h
  obtain ⟨A, c, rfl, _, _, _⟩ := ho.form
  exact ⟨A, c, rfl, ho.arg hl (Nat.le_refl _), ho, hb⟩
theorem RetC.nil {t : TypeId} {f : Value → Value} {w w' : World} (hb : Below w.heap.size w w') : RetC t f [] w (.returned (f (.slice none 0 0))) w' :=
  ⟨none, 0, rfl, ArgC.nil _, OwC.nil, hb⟩
/-- A SLICE THAT THE LAW HOLDS: where its cells lie is known, so that it is kept whatever is written elsewhere. -/
def HeldC (lo hi : Nat) (w : World) (A : Option Addr) (c : Nat) (zs : List Sec) : Prop := RdC lo hi w A zs ∧ hi ≤ w.heap.size ∧ zs.length ≤ 2097152 ∧ zs.length ≤ c ∧ c ≤ maxLen
section
variable {lo hi : Nat} {w w' : World} {A : Option Addr} {c : Nat} {zs : List Sec}
theorem HeldC.go (h : HeldC lo hi w A c zs) (hb : Below w.heap.size w w') : HeldC lo hi w' A c zs :=
  ⟨h.1.below (hb.mono h.2.1), Nat.le_trans h.2.1 hb.size, h.2.2⟩
theorem HeldC.grown (h : HeldC lo hi w A c zs) {row : Option Nat} (hg : w.grownBy w' row) (hr : ∀ r, row = some r → r < lo ∨ hi ≤ r) : HeldC lo hi w' A c zs :=
  ⟨h.1.grown hg hr, Nat.le_trans h.2.1 hg.size, h.2.2⟩
theorem HeldC.arg (h : HeldC lo hi w A c zs) : ArgC w A c zs := ⟨h.2.2.1, h.2.2.2.1, h.2.2.2.2, h.1.more (Nat.zero_le _) h.2.1⟩
theorem ArgC.held (h : ArgC w A c zs) : HeldC 0 w.heap.size w A c zs := ⟨h.2.2.2, Nat.le_refl _, h.1, h.2.1, h.2.2.1⟩
theorem OwC.held {t : TypeId} (h : OwC t lo hi w (.slice A zs.length c) zs) (hh : hi ≤ w.heap.size) (hl : zs.length ≤ 2097152) : HeldC lo hi w A c zs := by
  obtain ⟨A', c', e, h1, h2, h3⟩ := h.form
  injection e with e1 e2 e3
  subst e1; subst e3
  exact ⟨h3, hh, hl, h1, h2⟩
theorem OwC.range {t : TypeId} {sv : Value} (h : OwC t lo hi w sv zs) : ∀ r, sv.ownBlock = some r → lo ≤ r ∧ r < hi := fun r e => ⟨(h.1.lt r e).1, h.2 r e⟩
theorem OwC.go {t : TypeId} {sv : Value} (h : OwC t lo hi w sv zs) (hb : Below w.heap.size w w') (hh : hi ≤ w.heap.size) : OwC t lo hi w' sv zs := h.below hb hh
end

end Go.Proofs.Ytodboccadccpfaa
