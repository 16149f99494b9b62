/-
  Words for memory: a slice of lins that reads as a list. Nothing here speaks of the program.
-/
import Derived.Test.YtnekjhpocfdpnaaMem
import Derived.Test.YtnekjhpocfdpnaaSec
namespace Go.Proofs.Ytnekjhpocfdpnaa
open Go.RowKit

/-- a value of the struct -/
structure Lin where
  a : Int
  b : Int
  c : Int
deriving DecidableEq
theorem Lin.ext_ {a b : Lin} (h0 : a.a = b.a) (h1 : a.b = b.b) (h2 : a.c = b.c) : a = b := by
  cases a; cases b; simp_all
def Lin.zero : Lin := ⟨0, 0, 0⟩
def Lin.v (s : Lin) : Value := .agg #[.int .i64 s.a, .int .i64 s.b, .int .i64 s.c]
def linAt (ss : List Lin) (k : Nat) : Lin := ss[k]?.getD Lin.zero
theorem linAt_lt {ss : List Lin} {k : Nat} (h : k < ss.length) : linAt ss k = ss[k] := by simp [linAt, h]

/-- the cells of one lin -/
def LinAt (W : World) (b o : Nat) (s : Lin) : Prop := W.cell? ⟨b, o, none⟩ = some (.int .i64 s.a) ∧ W.cell? ⟨b, o + 1, none⟩ = some (.int .i64 s.b) ∧ W.cell? ⟨b, o + 2, none⟩ = some (.int .i64 s.c)
theorem LinAt.below {hi : Nat} {W W' : World} {b o : Nat} {s : Lin} (h : LinAt W b o s) (hb : Below hi W W') (h2 : b < hi) : LinAt W' b o s :=
  ⟨(hb.cell (p := ⟨b, o, none⟩) h2).trans h.1, (hb.cell (p := ⟨b, o + 1, none⟩) h2).trans h.2.1, (hb.cell (p := ⟨b, o + 2, none⟩) h2).trans h.2.2⟩
theorem LinAt.grown {W W' : World} {b o : Nat} {s : Lin} (h : LinAt W b o s) {row : Option Nat} (hg : W.grownBy W' row) (hr : ∀ r, row = some r → b ≠ r) : LinAt W' b o s := by
  have hbl := hg.block b (World.block_lt_of_cell? _ _ h.1) (fun e2 => hr b e2.symm rfl)
  exact ⟨(World.cell?_of_block (a := ⟨b, o, none⟩) hbl).trans h.1, (World.cell?_of_block (a := ⟨b, o + 1, none⟩) hbl).trans h.2.1, (World.cell?_of_block (a := ⟨b, o + 2, none⟩) hbl).trans h.2.2⟩

def linCell (s : Lin) : List Value := [.int .i64 s.a, .int .i64 s.b, .int .i64 s.c]
def linCells (ss : List Lin) : List Value := ss.flatMap linCell
theorem linCells_nil : linCells [] = [] := rfl
theorem linCells_cons (s : Lin) (r : List Lin) : linCells (s :: r) = .int .i64 s.a :: .int .i64 s.b :: .int .i64 s.c :: linCells r := rfl
theorem linCells_append (a b : List Lin) : linCells (a ++ b) = linCells a ++ linCells b := by simp [linCells]
theorem linCells_one (s : Lin) : linCells [s] = [.int .i64 s.a, .int .i64 s.b, .int .i64 s.c] := rfl
theorem linCells_length (ss : List Lin) : (linCells ss).length = ss.length * 3 := by
  induction ss with
  | nil => rfl
  | cons s r ih => rw [linCells_cons]; simp [ih]; omega
theorem linCells_at (ss : List Lin) : ∀ (j i : Nat), j < ss.length → i < 3 → (linCells ss)[j * 3 + i]? = (linCell (linAt ss j))[i]? := by
  induction ss with
  | nil => intro j i h; simp at h
  | cons s r ih =>
    intro j i hj hi
    cases j with
    | zero =>
      rw [show 0 * 3 + i = i by omega]
      show ((linCell s) ++ linCells r)[i]? = _
      rw [List.getElem?_append_left (by simp [linCell]; omega)]
      rfl
    | succ j =>
      rw [show (j + 1) * 3 + i = 3 + (j * 3 + i) by omega]
      show ((linCell s) ++ linCells r)[3 + (j * 3 + i)]? = _
      rw [List.getElem?_append_right (by simp [linCell]), show 3 + (j * 3 + i) - (linCell s).length = j * 3 + i by simp [linCell], ih j i (by simpa using hj) hi]
      rfl
theorem linCells_0 {ss : List Lin} {j : Nat} (h : j < ss.length) : (linCells ss)[j * 3]? = some (.int .i64 (linAt ss j).a) := linCells_at ss j 0 h (by omega)
theorem linCells_1 {ss : List Lin} {j : Nat} (h : j < ss.length) : (linCells ss)[j * 3 + 1]? = some (.int .i64 (linAt ss j).b) := linCells_at ss j 1 h (by omega)
theorem linCells_2 {ss : List Lin} {j : Nat} (h : j < ss.length) : (linCells ss)[j * 3 + 2]? = some (.int .i64 (linAt ss j).c) := linCells_at ss j 2 h (by omega)
theorem linCell_new (w : World) (s : Lin) (t : TypeId) : ∀ j u, (linCell s)[j]? = some u → (w.alloc (.cells #[.int .i64 s.a, .int .i64 s.b, .int .i64 s.c] t)).cell? ((⟨w.heap.size, 0, none⟩ : Addr).add j) = some u := by
  intro j u hu
  have h := cell_of_row (w.alloc (.cells #[.int .i64 s.a, .int .i64 s.b, .int .i64 s.c] t)) w.heap.size j _ _ _ (heap_alloc_new w _)
  rw [show (⟨w.heap.size, 0, none⟩ : Addr).add j = ⟨w.heap.size, j, none⟩ by unfold Addr.add; split <;> simp_all, h, ← hu]
  simp [linCell]
theorem linCell_new1 (w : World) (o : Obj) (s : Lin) (t : TypeId) : ∀ j u, (linCell s)[j]? = some u → ((w.alloc o).alloc (.cells #[.int .i64 s.a, .int .i64 s.b, .int .i64 s.c] t)).cell? ((⟨w.heap.size + 1, 0, none⟩ : Addr).add j) = some u := by
  have h := linCell_new (w.alloc o) s t
  have e : (w.alloc o).heap.size = w.heap.size + 1 := by simp
  rw [e] at h
  exact h
theorem linCell_one (s : Lin) : ∀ u ∈ linCell s, u.oneCell' = true := by
  intro u hu
  simp only [linCell, List.mem_cons, List.not_mem_nil, or_false] at hu
  rcases hu with rfl | rfl | rfl <;> rfl
theorem linCells_snoc (ss : List Lin) (s : Lin) : linCells (ss ++ [s]) = linCells ss ++ linCell s := by rw [linCells_append]; simp [linCells]
theorem linCells_oneCell (ss : List Lin) : ∀ u ∈ linCells ss, u.oneCell' = true := by
  intro u hu
  unfold linCells linCell at hu
  rw [List.mem_flatMap] at hu
  obtain ⟨s, _, hs⟩ := hu
  simp only [List.mem_cons, List.not_mem_nil, or_false] at hs
  rcases hs with rfl | rfl | rfl <;> rfl

/-- THE SLICE VALUE '.slice A zs.length c' READS AS THE SECTIONS zs; its cells lie in one block from lo on, below hi. -/
def RdL (lo hi : Nat) (W : World) (A : Option Addr) (zs : List Lin) : Prop :=
  0 < zs.length → ∃ b off, A = some ⟨b, off, none⟩ ∧ lo ≤ b ∧ b < hi ∧ ∀ j, j < zs.length → LinAt W b (off + j * 3) (linAt zs j)

section
variable {lo hi lo' hi' : Nat} {W W' : World} {A : Option Addr} {zs : List Lin}
theorem RdL.nil : RdL lo hi W A [] := fun h => absurd h (by simp)
theorem RdL.more (h : RdL lo hi W A zs) (hl : lo' ≤ lo) (hh : hi ≤ hi') : RdL lo' hi' W A zs := fun hn => by
  obtain ⟨b, off, e, h1, h2, hc⟩ := h hn
  exact ⟨b, off, e, by omega, by omega, hc⟩
theorem RdL.below (h : RdL lo hi W A zs) (hb : Below hi W W') : RdL lo hi W' A zs := fun hn => by
  obtain ⟨b, off, e, h1, h2, hc⟩ := h hn
  exact ⟨b, off, e, h1, h2, fun j hj => (hc j hj).below hb h2⟩
/-- what is asked for in a round alone -/
theorem RdL.at_ (h : RdL lo hi W A zs) {k : Nat} (hk : k < zs.length) : ∃ b off, A = some ⟨b, off, none⟩ ∧ lo ≤ b ∧ b < hi ∧ LinAt W b (off + k * 3) (linAt zs k) := by
  obtain ⟨b, off, e, h1, h2, hc⟩ := h (by omega)
  exact ⟨b, off, e, h1, h2, hc k hk⟩
end

/-- THE SLICE VALUE sv HOLDS zs IN A BLOCK OF ITS OWN, from lo on, below hi (or it is nil and there are none). t: the type of ints. -/
def OwL (t : TypeId) (lo hi : Nat) (W : World) (sv : Value) (zs : List Lin) : Prop :=
  W.ownsRow lo t 3 sv zs.length (linCells zs) ∧ ∀ g, sv.ownBlock = some g → g < hi

section
variable {t : TypeId} {lo hi lo' hi' : Nat} {W W' : World} {sv : Value} {zs : List Lin}
theorem OwL.nil : OwL t lo hi W (.slice none 0 0) [] := ⟨W.ownsRow_nil _ _ _, fun g h => by simp [Value.ownBlock] at h⟩
theorem OwL.own (h : OwL t lo hi W sv zs) : W.ownsRow lo t 3 sv zs.length (linCells zs) := h.1
theorem OwL.form (h : OwL t lo hi W sv zs) : ∃ A c, sv = .slice A zs.length c ∧ zs.length ≤ c ∧ c ≤ maxLen ∧ RdL lo hi W A zs := by
  have ho := h.1
  rcases h.1.2 with ⟨rfl, h0⟩ | ⟨g, cap, cur, rfl, hg, hgg, hn, hm, hs, ht⟩
  · exact ⟨none, 0, by rw [h0], by omega, by simp [maxLen], fun hp => by omega⟩
  · refine ⟨some ⟨g, 0, none⟩, cap, rfl, hn, hm, fun _ => ⟨g, 0, rfl, hg, h.2 g rfl, fun j hj => ?_⟩⟩
    have key : ∀ i u, (linCells zs)[i]? = some u → W.cell? ⟨g, i, none⟩ = some u := fun i u hu => by
      have := ho.cells (g := g) rfl i u hu
      rwa [show (⟨g, 0, none⟩ : Addr).add i = ⟨g, i, none⟩ by unfold Addr.add; split <;> simp_all] at this
    rw [Nat.zero_add]
    exact ⟨key _ _ (linCells_0 hj), key _ _ (linCells_1 hj), key _ _ (linCells_2 hj)⟩
theorem OwL.kept (h : OwL t lo hi W sv zs) {row : Option Nat} (hg : W.grownBy W' row) (hr : ∀ r, row = some r → r < lo ∨ hi ≤ r) : OwL t lo hi W' sv zs := by
  refine ⟨h.1.kept hg ?_, h.2⟩
  cases hb : sv.ownBlock with
  | none => exact .inl rfl
  | some g =>
    refine .inr fun e => ?_
    have h1 := h.2 g hb
    have h2 := (h.1.lt g hb).1
    rcases hr g e.symm with h3 | h3 <;> omega
theorem OwL.below {B : Nat} (h : OwL t lo hi W sv zs) (hb : Below B W W') (hB : hi ≤ B) : OwL t lo hi W' sv zs := by
  refine ⟨⟨h.1.1, ?_⟩, h.2⟩
  rcases h.1.2 with h0 | ⟨g, cap, cur, rfl, hg, hgg, rest⟩
  · exact .inl h0
  · have := h.2 g rfl
    exact .inr ⟨g, cap, cur, rfl, hg, (hb.block g (by omega)).trans hgg, rest⟩
theorem OwL.more (h : OwL t lo hi W sv zs) (hl : lo' ≤ lo) (hh : hi ≤ hi') : OwL t lo' hi' W sv zs := by
  refine ⟨⟨h.1.1, ?_⟩, fun g e => by have := h.2 g e; omega⟩
  rcases h.1.2 with h0 | ⟨g, cap, cur, rfl, hg, rest⟩
  · exact .inl h0
  · exact .inr ⟨g, cap, cur, rfl, by omega, rest⟩
theorem OwL.of_own (h : W.ownsRow lo t 3 sv zs.length (linCells zs)) : OwL t lo W.heap.size W sv zs := ⟨h, fun g e => (h.lt g e).2⟩
theorem RdL.grown {A : Option Addr} (h : RdL lo hi W A zs) {row : Option Nat} (hg : W.grownBy W' row) (hr : ∀ r, row = some r → r < lo ∨ hi ≤ r) : RdL lo hi W' A zs := fun hn => by
  obtain ⟨b, off, e, h1, h2, hc⟩ := h hn
  exact ⟨b, off, e, h1, h2, fun j hj => (hc j hj).grown hg (fun r e2 => by have := hr r e2; omega)⟩
end

/-- A SLICE OF SECTIONS AS AN ARGUMENT: it reads as zs in w; no more of them than the laws let in. -/
def ArgL (w : World) (A : Option Addr) (c : Nat) (zs : List Lin) : Prop := zs.length ≤ 2097152 ∧ zs.length ≤ c ∧ c ≤ maxLen ∧ RdL 0 w.heap.size w A zs
theorem ArgL.go {w w' : World} {A : Option Addr} {c : Nat} {zs : List Lin} (h : ArgL w A c zs) (hb : Below w.heap.size w w') : ArgL w' A c zs :=
  ⟨h.1, h.2.1, h.2.2.1, (h.2.2.2.below hb).more (Nat.le_refl _) hb.size⟩
theorem ArgL.len {w : World} {A : Option Addr} {c : Nat} {zs : List Lin} (h : ArgL w A c zs) : zs.length ≤ 2097152 := h.1
theorem ArgL.rd {w : World} {A : Option Addr} {c : Nat} {zs : List Lin} (h : ArgL w A c zs) : RdL 0 w.heap.size w A zs := h.2.2.2
theorem ArgL.nil (w : World) : ArgL w none 0 [] := ⟨by simp, by simp, by simp, RdL.nil⟩
theorem ArgL.grown {w w' : World} {A : Option Addr} {c : Nat} {zs : List Lin} (h : ArgL w A c zs) {lo hi : Nat} (hr : RdL lo hi w A zs) (hw : hi ≤ w.heap.size) {row : Option Nat} (hg : w.grownBy w' row) (hrow : ∀ r, row = some r → r < lo ∨ hi ≤ r) : ArgL w' A c zs :=
  ⟨h.1, h.2.1, h.2.2.1, (hr.grown hg hrow).more (Nat.zero_le _) (Nat.le_trans hw hg.size)⟩

/-- WHAT A FUNCTION THAT HANDS BACK A NEW SLICE LEAVES: f of the slice value that holds zs in new memory; nothing that was there has turned. -/
def RetL (t : TypeId) (f : Value → Value) (zs : List Lin) (w : World) (e : Ending) (w' : World) : Prop :=
  ∃ A c, e = .returned (f (.slice A zs.length c)) ∧ ArgL w' A c zs ∧ OwL t w.heap.size w'.heap.size w' (.slice A zs.length c) zs ∧ Below w.heap.size w w'
theorem OwL.arg {t : TypeId} {lo hi : Nat} {w : World} {A : Option Addr} {c : Nat} {zs : List Lin} (h : OwL t lo hi w (.slice A zs.length c) zs) (hl : zs.length ≤ 2097152) (hh : hi ≤ w.heap.size) : ArgL w A c zs := by
  obtain ⟨A', c', e, h1, h2, h3⟩ := h.form
  injection e with e1 e2 e3
  subst e1; subst e3
  exact ⟨hl, h1, h2, h3.more (Nat.zero_le _) hh⟩
theorem RetL.mk {t : TypeId} {f : Value → Value} {zs : List Lin} {w w' : World} {sv : Value} (hl : zs.length ≤ 2097152) (h : w'.ownsRow w.heap.size t 3 sv zs.length (linCells zs)) (hb : Below w.heap.size w w') : RetL t f zs w (.returned (f sv)) w' := by
  have ho := OwL.of_own h
  obtain ⟨A, c, rfl, _, _, _⟩ := ho.form
  exact ⟨A, c, rfl, ho.arg hl (Nat.le_refl _), ho, hb⟩
theorem RetL.nil {t : TypeId} {f : Value → Value} {w w' : World} (hb : Below w.heap.size w w') : RetL t f [] w (.returned (f (.slice none 0 0))) w' :=
  ⟨none, 0, rfl, ArgL.nil _, OwL.nil, hb⟩
/-- A SLICE THAT THE LAW HOLDS: where its cells lie is known, so that it is kept whatever is written elsewhere. -/
def HeldL (lo hi : Nat) (w : World) (A : Option Addr) (c : Nat) (zs : List Lin) : Prop := RdL lo hi w A zs ∧ hi ≤ w.heap.size ∧ zs.length ≤ 2097152 ∧ zs.length ≤ c ∧ c ≤ maxLen
section
variable {lo hi : Nat} {w w' : World} {A : Option Addr} {c : Nat} {zs : List Lin}
theorem HeldL.go (h : HeldL lo hi w A c zs) (hb : Below w.heap.size w w') : HeldL lo hi w' A c zs :=
  ⟨h.1.below (hb.mono h.2.1), Nat.le_trans h.2.1 hb.size, h.2.2⟩
theorem HeldL.grown (h : HeldL lo hi w A c zs) {row : Option Nat} (hg : w.grownBy w' row) (hr : ∀ r, row = some r → r < lo ∨ hi ≤ r) : HeldL lo hi w' A c zs :=
  ⟨h.1.grown hg hr, Nat.le_trans h.2.1 hg.size, h.2.2⟩
theorem HeldL.arg (h : HeldL lo hi w A c zs) : ArgL w A c zs := ⟨h.2.2.1, h.2.2.2.1, h.2.2.2.2, h.1.more (Nat.zero_le _) h.2.1⟩
theorem ArgL.held (h : ArgL w A c zs) : HeldL 0 w.heap.size w A c zs := ⟨h.2.2.2, Nat.le_refl _, h.1, h.2.1, h.2.2.1⟩
theorem OwL.held {t : TypeId} (h : OwL t lo hi w (.slice A zs.length c) zs) (hh : hi ≤ w.heap.size) (hl : zs.length ≤ 2097152) : HeldL lo hi w A c zs := by
  obtain ⟨A', c', e, h1, h2, h3⟩ := h.form
  injection e with e1 e2 e3
  subst e1; subst e3
  exact ⟨h3, hh, hl, h1, h2⟩
theorem OwL.range {t : TypeId} {sv : Value} (h : OwL t lo hi w sv zs) : ∀ r, sv.ownBlock = some r → lo ≤ r ∧ r < hi := fun r e => ⟨(h.1.lt r e).1, h.2 r e⟩
theorem OwL.go {t : TypeId} {sv : Value} (h : OwL t lo hi w sv zs) (hb : Below w.heap.size w w') (hh : hi ≤ w.heap.size) : OwL t lo hi w' sv zs := h.below hb hh
end

end Go.Proofs.Ytnekjhpocfdpnaa
