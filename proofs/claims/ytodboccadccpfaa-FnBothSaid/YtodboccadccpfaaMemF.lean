/-
  Words for memory: a slice of flts that reads as a list. Nothing here speaks of the program.
-/
import Derived.Test.YtodboccadccpfaaMem
import Derived.Test.YtodboccadccpfaaSec
namespace Go.Proofs.Ytodboccadccpfaa
open Go.RowKit

/-- a value of the struct -/
structure Flt where
  m : Int
  o : Int
deriving DecidableEq
theorem Flt.ext_ {a b : Flt} (h0 : a.m = b.m) (h1 : a.o = b.o) : a = b := by
  cases a; cases b; simp_all
def Flt.zero : Flt := ⟨0, 0⟩
def Flt.v (s : Flt) : Value := .agg #[.int .i64 s.m, .int .i64 s.o]
def fltAt (ss : List Flt) (k : Nat) : Flt := ss[k]?.getD Flt.zero
theorem fltAt_lt {ss : List Flt} {k : Nat} (h : k < ss.length) : fltAt ss k = ss[k] := by simp [fltAt, h]

/-- the cells of one flt -/
def FltAt (W : World) (b o : Nat) (s : Flt) : Prop := W.cell? ⟨b, o, none⟩ = some (.int .i64 s.m) ∧ W.cell? ⟨b, o + 1, none⟩ = some (.int .i64 s.o)
theorem FltAt.below {hi : Nat} {W W' : World} {b o : Nat} {s : Flt} (h : FltAt W b o s) (hb : Below hi W W') (h2 : b < hi) : FltAt W' b o s :=
  ⟨(hb.cell (p := ⟨b, o, none⟩) h2).trans h.1, (hb.cell (p := ⟨b, o + 1, none⟩) h2).trans h.2⟩
theorem FltAt.grown {W W' : World} {b o : Nat} {s : Flt} (h : FltAt W b o s) {row : Option Nat} (hg : W.grownBy W' row) (hr : ∀ r, row = some r → b ≠ r) : FltAt W' b o s := by
  have hbl := hg.block b (World.block_lt_of_cell? _ _ h.1) (fun e2 => hr b e2.symm rfl)
  exact ⟨(World.cell?_of_block (a := ⟨b, o, none⟩) hbl).trans h.1, (World.cell?_of_block (a := ⟨b, o + 1, none⟩) hbl).trans h.2⟩

def fltCell (s : Flt) : List Value := [.int .i64 s.m, .int .i64 s.o]
def fltCells (ss : List Flt) : List Value := ss.flatMap fltCell
theorem fltCells_nil : fltCells [] = [] := rfl
theorem fltCells_cons (s : Flt) (r : List Flt) : fltCells (s :: r) = .int .i64 s.m :: .int .i64 s.o :: fltCells r := rfl
theorem fltCells_append (a b : List Flt) : fltCells (a ++ b) = fltCells a ++ fltCells b := by simp [fltCells]
theorem fltCells_one (s : Flt) : fltCells [s] = [.int .i64 s.m, .int .i64 s.o] := rfl
theorem fltCells_length (ss : List Flt) : (fltCells ss).length = ss.length * 2 := by
  induction ss with
  | nil => rfl
  | cons s r ih => rw [fltCells_cons]; simp [ih]; omega
theorem fltCells_at (ss : List Flt) : ∀ (j i : Nat), j < ss.length → i < 2 → (fltCells ss)[j * 2 + i]? = (fltCell (fltAt ss j))[i]? := by
  induction ss with
  | nil => intro j i h; simp at h
  | cons s r ih =>
    intro j i hj hi
    cases j with
    | zero =>
      rw [show 0 * 2 + i = i by omega]
      show ((fltCell s) ++ fltCells r)[i]? = _
      rw [List.getElem?_append_left (by simp [fltCell]; omega)]
      rfl
    | succ j =>
      rw [show (j + 1) * 2 + i = 2 + (j * 2 + i) by omega]
      show ((fltCell s) ++ fltCells r)[2 + (j * 2 + i)]? = _
      rw [List.getElem?_append_right (by simp [fltCell]), show 2 + (j * 2 + i) - (fltCell s).length = j * 2 + i by simp [fltCell], ih j i (by simpa using hj) hi]
      rfl
theorem fltCells_0 {ss : List Flt} {j : Nat} (h : j < ss.length) : (fltCells ss)[j * 2]? = some (.int .i64 (fltAt ss j).m) := fltCells_at ss j 0 h (by omega)
theorem fltCells_1 {ss : List Flt} {j : Nat} (h : j < ss.length) : (fltCells ss)[j * 2 + 1]? = some (.int .i64 (fltAt ss j).o) := fltCells_at ss j 1 h (by omega)
theorem fltCell_new (w : World) (s : Flt) (t : TypeId) : ∀ j u, (fltCell s)[j]? = some u → (w.alloc (.cells #[.int .i64 s.m, .int .i64 s.o] t)).cell? ((⟨w.heap.size, 0, none⟩ : Addr).add j) = some u := by
  intro j u hu
  have h := cell_of_row (w.alloc (.cells #[.int .i64 s.m, .int .i64 s.o] t)) w.heap.size j _ _ _ (heap_alloc_new w _)
  rw [show (⟨w.heap.size, 0, none⟩ : Addr).add j = ⟨w.heap.size, j, none⟩ by unfold Addr.add; split <;> simp_all, h, ← hu]
  simp [fltCell]
theorem fltCell_new1 (w : World) (o : Obj) (s : Flt) (t : TypeId) : ∀ j u, (fltCell s)[j]? = some u → ((w.alloc o).alloc (.cells #[.int .i64 s.m, .int .i64 s.o] t)).cell? ((⟨w.heap.size + 1, 0, none⟩ : Addr).add j) = some u := by
  have h := fltCell_new (w.alloc o) s t
  have e : (w.alloc o).heap.size = w.heap.size + 1 := by simp
  rw [e] at h
  exact h
theorem fltCell_one (s : Flt) : ∀ u ∈ fltCell s, u.oneCell' = true := by
  intro u hu
  simp only [fltCell, List.mem_cons, List.not_mem_nil, or_false] at hu
  rcases hu with rfl | rfl <;> rfl
theorem fltCells_snoc (ss : List Flt) (s : Flt) : fltCells (ss ++ [s]) = fltCells ss ++ fltCell s := by rw [fltCells_append]; simp [fltCells]
theorem fltCells_oneCell (ss : List Flt) : ∀ u ∈ fltCells ss, u.oneCell' = true := by
  intro u hu
  unfold fltCells fltCell at hu
  rw [List.mem_flatMap] at hu
  obtain ⟨s, _, hs⟩ := hu
  simp only [List.mem_cons, List.not_mem_nil, or_false] at hs
  rcases hs with rfl | rfl <;> rfl

/-- THE SLICE VALUE '.slice A zs.length c' READS AS THE SECTIONS zs; its cells lie in one block from lo on, below hi. -/
def RdF (lo hi : Nat) (W : World) (A : Option Addr) (zs : List Flt) : Prop :=
  0 < zs.length → ∃ b off, A = some ⟨b, off, none⟩ ∧ lo ≤ b ∧ b < hi ∧ ∀ j, j < zs.length → FltAt W b (off + j * 2) (fltAt zs j)

section
variable {lo hi lo' hi' : Nat} {W W' : World} {A : Option Addr} {zs : List Flt}
theorem RdF.nil : RdF lo hi W A [] := fun h => absurd h (by simp)
theorem RdF.more (h : RdF lo hi W A zs) (hl : lo' ≤ lo) (hh : hi ≤ hi') : RdF lo' hi' W A zs := fun hn => by
  obtain ⟨b, off, e, h1, h2, hc⟩ := h hn
  exact ⟨b, off, e, by omega, by omega, hc⟩
theorem RdF.below (h : RdF lo hi W A zs) (hb : Below hi W W') : RdF lo hi W' A zs := fun hn => by
  obtain ⟨b, off, e, h1, h2, hc⟩ := h hn
  exact ⟨b, off, e, h1, h2, fun j hj => (hc j hj).below hb h2⟩
/-- what is asked for in a round alone -/
theorem RdF.at_ (h : RdF lo hi W A zs) {k : Nat} (hk : k < zs.length) : ∃ b off, A = some ⟨b, off, none⟩ ∧ lo ≤ b ∧ b < hi ∧ FltAt W b (off + k * 2) (fltAt zs k) := by
  obtain ⟨b, off, e, h1, h2, hc⟩ := h (by omega)
  exact ⟨b, off, e, h1, h2, hc k hk⟩
end

/-- THE SLICE VALUE sv HOLDS zs IN A BLOCK OF ITS OWN, from lo on, below hi (or it is nil and there are none). t: the type of ints. -/
def OwF (t : TypeId) (lo hi : Nat) (W : World) (sv : Value) (zs : List Flt) : Prop :=
  W.ownsRow lo t 2 sv zs.length (fltCells zs) ∧ ∀ g, sv.ownBlock = some g → g < hi

section
variable {t : TypeId} {lo hi lo' hi' : Nat} {W W' : World} {sv : Value} {zs : List Flt}
theorem OwF.nil : OwF t lo hi W (.slice none 0 0) [] := ⟨W.ownsRow_nil _ _ _, fun g h => by simp [Value.ownBlock] at h⟩
theorem OwF.own (h : OwF t lo hi W sv zs) : W.ownsRow lo t 2 sv zs.length (fltCells zs) := h.1
theorem OwF.form (h : OwF t lo hi W sv zs) : ∃ A c, sv = .slice A zs.length c ∧ zs.length ≤ c ∧ c ≤ maxLen ∧ RdF lo hi W A zs := by
  have ho := h.1
  rcases h.1.2 with ⟨rfl, h0⟩ | ⟨g, cap, cur, rfl, hg, hgg, hn, hm, hs, ht⟩
  · exact ⟨none, 0, by rw [h0], by omega, by simp [maxLen], fun hp => by omega⟩
  · refine ⟨some ⟨g, 0, none⟩, cap, rfl, hn, hm, fun _ => ⟨g, 0, rfl, hg, h.2 g rfl, fun j hj => ?_⟩⟩
    have key : ∀ i u, (fltCells zs)[i]? = some u → W.cell? ⟨g, i, none⟩ = some u := fun i u hu => by
      have := ho.cells (g := g) rfl i u hu
      rwa [show (⟨g, 0, none⟩ : Addr).add i = ⟨g, i, none⟩ by unfold Addr.add; split <;> simp_all] at this
    rw [Nat.zero_add]
    exact ⟨key _ _ (fltCells_0 hj), key _ _ (fltCells_1 hj)⟩
theorem OwF.kept (h : OwF t lo hi W sv zs) {row : Option Nat} (hg : W.grownBy W' row) (hr : ∀ r, row = some r → r < lo ∨ hi ≤ r) : OwF t lo hi W' sv zs := by
  refine ⟨h.1.kept hg ?_, h.2⟩
  cases hb : sv.ownBlock with
  | none => exact .inl rfl
  | some g =>
    refine .inr fun e => ?_
    have h1 := h.2 g hb
    have h2 := (h.1.lt g hb).1
    rcases hr g e.symm with h3 | h3 <;> omega
theorem OwF.below {B : Nat} (h : OwF t lo hi W sv zs) (hb : Below B W W') (hB : hi ≤ B) : OwF t lo hi W' sv zs := by
  refine ⟨⟨h.1.1, ?_⟩, h.2⟩
  rcases h.1.2 with h0 | ⟨g, cap, cur, rfl, hg, hgg, rest⟩
  · exact .inl h0
  · have := h.2 g rfl
    exact .inr ⟨g, cap, cur, rfl, hg, (hb.block g (by omega)).trans hgg, rest⟩
theorem OwF.more (h : OwF t lo hi W sv zs) (hl : lo' ≤ lo) (hh : hi ≤ hi') : OwF t lo' hi' W sv zs := by
  refine ⟨⟨h.1.1, ?_⟩, fun g e => by have := h.2 g e; omega⟩
  rcases h.1.2 with h0 | ⟨g, cap, cur, rfl, hg, rest⟩
  · exact .inl h0
  · exact .inr ⟨g, cap, cur, rfl, by omega, rest⟩
theorem OwF.of_own (h : W.ownsRow lo t 2 sv zs.length (fltCells zs)) : OwF t lo W.heap.size W sv zs := ⟨h, fun g e => (h.lt g e).2⟩
theorem RdF.grown {A : Option Addr} (h : RdF lo hi W A zs) {row : Option Nat} (hg : W.grownBy W' row) (hr : ∀ r, row = some r → r < lo ∨ hi ≤ r) : RdF lo hi W' A zs := fun hn => by
  obtain ⟨b, off, e, h1, h2, hc⟩ := h hn
  exact ⟨b, off, e, h1, h2, fun j hj => (hc j hj).grown hg (fun r e2 => by have := hr r e2; omega)⟩
end

/-- A SLICE OF SECTIONS AS AN ARGUMENT: it reads as zs in w; no more of them than the laws let in. -/
def ArgF (w : World) (A : Option Addr) (c : Nat) (zs : List Flt) : Prop := zs.length ≤ 2097152 ∧ zs.length ≤ c ∧ c ≤ maxLen ∧ RdF 0 w.heap.size w A zs
theorem ArgF.go {w w' : World} {A : Option Addr} {c : Nat} {zs : List Flt} (h : ArgF w A c zs) (hb : Below w.heap.size w w') : ArgF w' A c zs :=
  ⟨h.1, h.2.1, h.2.2.1, (h.2.2.2.below hb).more (Nat.le_refl _) hb.size⟩
theorem ArgF.len {w : World} {A : Option Addr} {c : Nat} {zs : List Flt} (h : ArgF w A c zs) : zs.length ≤ 2097152 := h.1
theorem ArgF.rd {w : World} {A : Option Addr} {c : Nat} {zs : List Flt} (h : ArgF w A c zs) : RdF 0 w.heap.size w A zs := h.2.2.2
theorem ArgF.nil (w : World) : ArgF w none 0 [] := ⟨by simp, by simp, by simp, RdF.nil⟩
theorem ArgF.grown {w w' : World} {A : Option Addr} {c : Nat} {zs : List Flt} (h : ArgF w A c zs) {lo hi : Nat} (hr : RdF lo hi w A zs) (hw : hi ≤ w.heap.size) {row : Option Nat} (hg : w.grownBy w' row) (hrow : ∀ r, row = some r → r < lo ∨ hi ≤ r) : ArgF w' A c zs :=
  ⟨h.1, h.2.1, h.2.2.1, (hr.grown hg hrow).more (Nat.zero_le _) (Nat.le_trans hw hg.size)⟩

/-- WHAT A FUNCTION THAT HANDS BACK A NEW SLICE LEAVES: f of the slice value that holds zs in new memory; nothing that was there has turned. -/
def RetF (t : TypeId) (f : Value → Value) (zs : List Flt) (w : World) (e : Ending) (w' : World) : Prop :=
  ∃ A c, e = .returned (f (.slice A zs.length c)) ∧ ArgF w' A c zs ∧ OwF t w.heap.size w'.heap.size w' (.slice A zs.length c) zs ∧ Below w.heap.size w w'
theorem OwF.arg {t : TypeId} {lo hi : Nat} {w : World} {A : Option Addr} {c : Nat} {zs : List Flt} (h : OwF t lo hi w (.slice A zs.length c) zs) (hl : zs.length ≤ 2097152) (hh : hi ≤ w.heap.size) : ArgF w A c zs := by
  obtain ⟨A', c', e, h1, h2, h3⟩ := h.form
  injection e with e1 e2 e3
  subst e1; subst e3
  exact ⟨hl, h1, h2, h3.more (Nat.zero_le _) hh⟩
theorem RetF.mk {t : TypeId} {f : Value → Value} {zs : List Flt} {w w' : World} {sv : Value} (hl : zs.length ≤ 2097152) (h : w'.ownsRow w.heap.size t 2 sv zs.length (fltCells zs)) (hb : Below w.heap.size w w') : RetF t f zs w (.returned (f sv)) w' := by
  have ho := OwF.of_own h
  obtain ⟨A, c, rfl, _, _, _⟩ := ho.form
  exact ⟨A, c, rfl, ho.arg hl (Nat.le_refl _), ho, hb⟩
theorem RetF.nil {t : TypeId} {f : Value → Value} {w w' : World} (hb : Below w.heap.size w w') : RetF t f [] w (.returned (f (.slice none 0 0))) w' :=
  ⟨none, 0, rfl, ArgF.nil _, OwF.nil, hb⟩
/-- A SLICE THAT THE LAW HOLDS: where its cells lie is known, so that it is kept whatever is written elsewhere. -/
def HeldF (lo hi : Nat) (w : World) (A : Option Addr) (c : Nat) (zs : List Flt) : Prop := RdF lo hi w A zs ∧ hi ≤ w.heap.size ∧ zs.length ≤ 2097152 ∧ zs.length ≤ c ∧ c ≤ maxLen
section
variable {lo hi : Nat} {w w' : World} {A : Option Addr} {c : Nat} {zs : List Flt}
theorem HeldF.go (h : HeldF lo hi w A c zs) (hb : Below w.heap.size w w') : HeldF lo hi w' A c zs :=
  ⟨h.1.below (hb.mono h.2.1), Nat.le_trans h.2.1 hb.size, h.2.2⟩
theorem HeldF.grown (h : HeldF lo hi w A c zs) {row : Option Nat} (hg : w.grownBy w' row) (hr : ∀ r, row = some r → r < lo ∨ hi ≤ r) : HeldF lo hi w' A c zs :=
  ⟨h.1.grown hg hr, Nat.le_trans h.2.1 hg.size, h.2.2⟩
theorem HeldF.arg (h : HeldF lo hi w A c zs) : ArgF w A c zs := ⟨h.2.2.1, h.2.2.2.1, h.2.2.2.2, h.1.more (Nat.zero_le _) h.2.1⟩
theorem ArgF.held (h : ArgF w A c zs) : HeldF 0 w.heap.size w A c zs := ⟨h.2.2.2, Nat.le_refl _, h.1, h.2.1, h.2.2.1⟩
theorem OwF.held {t : TypeId} (h : OwF t lo hi w (.slice A zs.length c) zs) (hh : hi ≤ w.heap.size) (hl : zs.length ≤ 2097152) : HeldF lo hi w A c zs := by
  obtain ⟨A', c', e, h1, h2, h3⟩ := h.form
  injection e with e1 e2 e3
  subst e1; subst e3
  exact ⟨h3, hh, hl, h1, h2⟩
theorem OwF.range {t : TypeId} {sv : Value} (h : OwF t lo hi w sv zs) : ∀ r, sv.ownBlock = some r → lo ≤ r ∧ r < hi := fun r e => ⟨(h.1.lt r e).1, h.2 r e⟩
theorem OwF.go {t : TypeId} {sv : Value} (h : OwF t lo hi w sv zs) (hb : Below w.heap.size w w') (hh : hi ≤ w.heap.size) : OwF t lo hi w' sv zs := h.below hb hh
end

end Go.Proofs.Ytodboccadccpfaa
