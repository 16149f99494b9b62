/-
  Words for memory: a slice of sprs that reads as a list. Nothing here speaks of the program.
-/
import Derived.Test.YtnekjhpocfdpnaaMem
import Derived.Test.YtnekjhpocfdpnaaSec
namespace Go.Proofs.Ytnekjhpocfdpnaa
open Go.RowKit

/-- a value of the struct -/
structure Spr where
  m : Int
  k : Int
deriving DecidableEq
theorem Spr.ext_ {a b : Spr} (h0 : a.m = b.m) (h1 : a.k = b.k) : a = b := by
  cases a; cases b; simp_all
def Spr.zero : Spr := ⟨0, 0⟩
def Spr.v (s : Spr) : Value := .agg #[.int .i64 s.m, .int .i64 s.k]
def sprAt (ss : List Spr) (k : Nat) : Spr := ss[k]?.getD Spr.zero
theorem sprAt_lt {ss : List Spr} {k : Nat} (h : k < ss.length) : sprAt ss k = ss[k] := by simp [sprAt, h]

/-- the cells of one spr -/
def SprAt (W : World) (b o : Nat) (s : Spr) : Prop := W.cell? ⟨b, o, none⟩ = some (.int .i64 s.m) ∧ W.cell? ⟨b, o + 1, none⟩ = some (.int .i64 s.k)
theorem SprAt.below {hi : Nat} {W W' : World} {b o : Nat} {s : Spr} (h : SprAt W b o s) (hb : Below hi W W') (h2 : b < hi) : SprAt W' b o s :=
  ⟨(hb.cell (p := ⟨b, o, none⟩) h2).trans h.1, (hb.cell (p := ⟨b, o + 1, none⟩) h2).trans h.2⟩
theorem SprAt.grown {W W' : World} {b o : Nat} {s : Spr} (h : SprAt W b o s) {row : Option Nat} (hg : W.grownBy W' row) (hr : ∀ r, row = some r → b ≠ r) : SprAt W' b o s := by
  have hbl := hg.block b (World.block_lt_of_cell? _ _ h.1) (fun e2 => hr b e2.symm rfl)
  exact ⟨(World.cell?_of_block (a := ⟨b, o, none⟩) hbl).trans h.1, (World.cell?_of_block (a := ⟨b, o + 1, none⟩) hbl).trans h.2⟩

def sprCell (s : Spr) : List Value := [.int .i64 s.m, .int .i64 s.k]
def sprCells (ss : List Spr) : List Value := ss.flatMap sprCell
theorem sprCells_nil : sprCells [] = [] := rfl
theorem sprCells_cons (s : Spr) (r : List Spr) : sprCells (s :: r) = .int .i64 s.m :: .int .i64 s.k :: sprCells r := rfl
theorem sprCells_append (a b : List Spr) : sprCells (a ++ b) = sprCells a ++ sprCells b := by simp [sprCells]
theorem sprCells_one (s : Spr) : sprCells [s] = [.int .i64 s.m, .int .i64 s.k] := rfl
theorem sprCells_length (ss : List Spr) : (sprCells ss).length = ss.length * 2 := by
  induction ss with
  | nil => rfl
  | cons s r ih => rw [sprCells_cons]; simp [ih]; omega
theorem sprCells_at (ss : List Spr) : ∀ (j i : Nat), j < ss.length → i < 2 → (sprCells ss)[j * 2 + i]? = (sprCell (sprAt ss j))[i]? := by
  induction ss with
  | nil => intro j i h; simp at h
  | cons s r ih =>
    intro j i hj hi
    cases j with
    | zero =>
      rw [show 0 * 2 + i = i by omega]
      show ((sprCell s) ++ sprCells r)[i]? = _
      rw [List.getElem?_append_left (by simp [sprCell]; omega)]
      rfl
    | succ j =>
      rw [show (j + 1) * 2 + i = 2 + (j * 2 + i) by omega]
      show ((sprCell s) ++ sprCells r)[2 + (j * 2 + i)]? = _
      rw [List.getElem?_append_right (by simp [sprCell]), show 2 + (j * 2 + i) - (sprCell s).length = j * 2 + i by simp [sprCell], ih j i (by simpa using hj) hi]
      rfl
theorem sprCells_0 {ss : List Spr} {j : Nat} (h : j < ss.length) : (sprCells ss)[j * 2]? = some (.int .i64 (sprAt ss j).m) := sprCells_at ss j 0 h (by omega)
theorem sprCells_1 {ss : List Spr} {j : Nat} (h : j < ss.length) : (sprCells ss)[j * 2 + 1]? = some (.int .i64 (sprAt ss j).k) := sprCells_at ss j 1 h (by omega)
theorem sprCell_new (w : World) (s : Spr) (t : TypeId) : ∀ j u, (sprCell s)[j]? = some u → (w.alloc (.cells #[.int .i64 s.m, .int .i64 s.k] t)).cell? ((⟨w.heap.size, 0, none⟩ : Addr).add j) = some u := by
  intro j u hu
  have h := cell_of_row (w.alloc (.cells #[.int .i64 s.m, .int .i64 s.k] t)) w.heap.size j _ _ _ (heap_alloc_new w _)
  rw [show (⟨w.heap.size, 0, none⟩ : Addr).add j = ⟨w.heap.size, j, none⟩ by unfold Addr.add; split <;> simp_all, h, ← hu]
  simp [sprCell]
theorem sprCell_new1 (w : World) (o : Obj) (s : Spr) (t : TypeId) : ∀ j u, (sprCell s)[j]? = some u → ((w.alloc o).alloc (.cells #[.int .i64 s.m, .int .i64 s.k] t)).cell? ((⟨w.heap.size + 1, 0, none⟩ : Addr).add j) = some u := by
  have h := sprCell_new (w.alloc o) s t
  have e : (w.alloc o).heap.size = w.heap.size + 1 := by simp
  rw [e] at h
  exact h
theorem sprCell_one (s : Spr) : ∀ u ∈ sprCell s, u.oneCell' = true := by
  intro u hu
  simp only [sprCell, List.mem_cons, List.not_mem_nil, or_false] at hu
  rcases hu with rfl | rfl <;> rfl
theorem sprCells_snoc (ss : List Spr) (s : Spr) : sprCells (ss ++ [s]) = sprCells ss ++ sprCell s := by rw [sprCells_append]; simp [sprCells]
theorem sprCells_oneCell (ss : List Spr) : ∀ u ∈ sprCells ss, u.oneCell' = true := by
  intro u hu
  unfold sprCells sprCell at hu
  rw [List.mem_flatMap] at hu
  obtain ⟨s, _, hs⟩ := hu
  simp only [List.mem_cons, List.not_mem_nil, or_false] at hs
  rcases hs with rfl | rfl <;> rfl

/-- THE SLICE VALUE '.slice A zs.length c' READS AS THE SECTIONS zs; its cells lie in one block from lo on, below hi. -/
def RdZ (lo hi : Nat) (W : World) (A : Option Addr) (zs : List Spr) : Prop :=
  0 < zs.length → ∃ b off, A = some ⟨b, off, none⟩ ∧ lo ≤ b ∧ b < hi ∧ ∀ j, j < zs.length → SprAt W b (off + j * 2) (sprAt zs j)

section
variable {lo hi lo' hi' : Nat} {W W' : World} {A : Option Addr} {zs : List Spr}
theorem RdZ.nil : RdZ lo hi W A [] := fun h => absurd h (by simp)
theorem RdZ.more (h : RdZ lo hi W A zs) (hl : lo' ≤ lo) (hh : hi ≤ hi') : RdZ lo' hi' W A zs := fun hn => by
  obtain ⟨b, off, e, h1, h2, hc⟩ := h hn
  exact ⟨b, off, e, by omega, by omega, hc⟩
theorem RdZ.below (h : RdZ lo hi W A zs) (hb : Below hi W W') : RdZ lo hi W' A zs := fun hn => by
  obtain ⟨b, off, e, h1, h2, hc⟩ := h hn
  exact ⟨b, off, e, h1, h2, fun j hj => (hc j hj).below hb h2⟩
/-- what is asked for in a round alone -/
theorem RdZ.at_ (h : RdZ lo hi W A zs) {k : Nat} (hk : k < zs.length) : ∃ b off, A = some ⟨b, off, none⟩ ∧ lo ≤ b ∧ b < hi ∧ SprAt W b (off + k * 2) (sprAt zs k) := by
  obtain ⟨b, off, e, h1, h2, hc⟩ := h (by omega)
  exact ⟨b, off, e, h1, h2, hc k hk⟩
end

/-- THE SLICE VALUE sv HOLDS zs IN A BLOCK OF ITS OWN, from lo on, below hi (or it is nil and there are none). t: the type of ints. -/
def OwZ (t : TypeId) (lo hi : Nat) (W : World) (sv : Value) (zs : List Spr) : Prop :=
  W.ownsRow lo t 2 sv zs.length (sprCells zs) ∧ ∀ g, sv.ownBlock = some g → g < hi

section
variable {t : TypeId} {lo hi lo' hi' : Nat} {W W' : World} {sv : Value} {zs : List Spr}
theorem OwZ.nil : OwZ t lo hi W (.slice none 0 0) [] := ⟨W.ownsRow_nil _ _ _, fun g h => by simp [Value.ownBlock] at h⟩
theorem OwZ.own (h : OwZ t lo hi W sv zs) : W.ownsRow lo t 2 sv zs.length (sprCells zs) := h.1
theorem OwZ.form (h : OwZ t lo hi W sv zs) : ∃ A c, sv = .slice A zs.length c ∧ zs.length ≤ c ∧ c ≤ maxLen ∧ RdZ lo hi W A zs := by
  have ho := h.1
  rcases h.1.2 with ⟨rfl, h0⟩ | ⟨g, cap, cur, rfl, hg, hgg, hn, hm, hs, ht⟩
  · exact ⟨none, 0, by rw [h0], by omega, by simp [maxLen], fun hp => by omega⟩
  · refine ⟨some ⟨g, 0, none⟩, cap, rfl, hn, hm, fun _ => ⟨g, 0, rfl, hg, h.2 g rfl, fun j hj => ?_⟩⟩
    have key : ∀ i u, (sprCells zs)[i]? = some u → W.cell? ⟨g, i, none⟩ = some u := fun i u hu => by
      have := ho.cells (g := g) rfl i u hu
      rwa [show (⟨g, 0, none⟩ : Addr).add i = ⟨g, i, none⟩ by unfold Addr.add; split <;> simp_all] at this
    rw [Nat.zero_add]
    exact ⟨key _ _ (sprCells_0 hj), key _ _ (sprCells_1 hj)⟩
theorem OwZ.kept (h : OwZ t lo hi W sv zs) {row : Option Nat} (hg : W.grownBy W' row) (hr : ∀ r, row = some r → r < lo ∨ hi ≤ r) : OwZ t lo hi W' sv zs := by
  refine ⟨h.1.kept hg ?_, h.2⟩
  cases hb : sv.ownBlock with
  | none => exact .inl rfl
  | some g =>
    refine .inr fun e => ?_
    have h1 := h.2 g hb
    have h2 := (h.1.lt g hb).1
    rcases hr g e.symm with h3 | h3 <;> omega
theorem OwZ.below {B : Nat} (h : OwZ t lo hi W sv zs) (hb : Below B W W') (hB : hi ≤ B) : OwZ t lo hi W' sv zs := by
  refine ⟨⟨h.1.1, ?_⟩, h.2⟩
  rcases h.1.2 with h0 | ⟨g, cap, cur, rfl, hg, hgg, rest⟩
  · exact .inl h0
  · have := h.2 g rfl
    exact .inr ⟨g, cap, cur, rfl, hg, (hb.block g (by omega)).trans hgg, rest⟩
theorem OwZ.more (h : OwZ t lo hi W sv zs) (hl : lo' ≤ lo) (hh : hi ≤ hi') : OwZ t lo' hi' W sv zs := by
  refine ⟨⟨h.1.1, ?_⟩, fun g e => by have := h.2 g e; omega⟩
  rcases h.1.2 with h0 | ⟨g, cap, cur, rfl, hg, rest⟩
  · exact .inl h0
  · exact .inr ⟨g, cap, cur, rfl, by omega, rest⟩
theorem OwZ.of_own (h : W.ownsRow lo t 2 sv zs.length (sprCells zs)) : OwZ t lo W.heap.size W sv zs := ⟨h, fun g e => (h.lt g e).2⟩
theorem RdZ.grown {A : Option Addr} (h : RdZ lo hi W A zs) {row : Option Nat} (hg : W.grownBy W' row) (hr : ∀ r, row = some r → r < lo ∨ hi ≤ r) : RdZ lo hi W' A zs := fun hn => by
  obtain ⟨b, off, e, h1, h2, hc⟩ := h hn
  exact ⟨b, off, e, h1, h2, fun j hj => (hc j hj).grown hg (fun r e2 => by have := hr r e2; omega)⟩
end

/-- A SLICE OF SECTIONS AS AN ARGUMENT: it reads as zs in w; no more of them than the laws let in. -/
def ArgZ (w : World) (A : Option Addr) (c : Nat) (zs : List Spr) : Prop := zs.length ≤ 2097152 ∧ zs.length ≤ c ∧ c ≤ maxLen ∧ RdZ 0 w.heap.size w A zs
theorem ArgZ.go {w w' : World} {A : Option Addr} {c : Nat} {zs : List Spr} (h : ArgZ w A c zs) (hb : Below w.heap.size w w') : ArgZ w' A c zs :=
  ⟨h.1, h.2.1, h.2.2.1, (h.2.2.2.below hb).more (Nat.le_refl _) hb.size⟩
theorem ArgZ.len {w : World} {A : Option Addr} {c : Nat} {zs : List Spr} (h : ArgZ w A c zs) : zs.length ≤ 2097152 := h.1
theorem ArgZ.rd {w : World} {A : Option Addr} {c : Nat} {zs : List Spr} (h : ArgZ w A c zs) : RdZ 0 w.heap.size w A zs := h.2.2.2
theorem ArgZ.nil (w : World) : ArgZ w none 0 [] := ⟨by simp, by simp, by simp, RdZ.nil⟩
theorem ArgZ.grown {w w' : World} {A : Option Addr} {c : Nat} {zs : List Spr} (h : ArgZ w A c zs) {lo hi : Nat} (hr : RdZ lo hi w A zs) (hw : hi ≤ w.heap.size) {row : Option Nat} (hg : w.grownBy w' row) (hrow : ∀ r, row = some r → r < lo ∨ hi ≤ r) : ArgZ w' A c zs :=
  ⟨h.1, h.2.1, h.2.2.1, (hr.grown hg hrow).more (Nat.zero_le _) (Nat.le_trans hw hg.size)⟩

/-- WHAT A FUNCTION THAT HANDS BACK A NEW SLICE LEAVES: f of the slice value that holds zs in new memory; nothing that was there has turned. -/
def RetZ (t : TypeId) (f : Value → Value) (zs : List Spr) (w : World) (e : Ending) (w' : World) : Prop :=
  ∃ A c, e = .returned (f (.slice A zs.length c)) ∧ ArgZ w' A c zs ∧ OwZ t w.heap.size w'.heap.size w' (.slice A zs.length c) zs ∧ Below w.heap.size w w'
theorem OwZ.arg {t : TypeId} {lo hi : Nat} {w : World} {A : Option Addr} {c : Nat} {zs : List Spr} (h : OwZ t lo hi w (.slice A zs.length c) zs) (hl : zs.length ≤ 2097152) (hh : hi ≤ w.heap.size) : ArgZ w A c zs := by
  obtain ⟨A', c', e, h1, h2, h3⟩ := h.form
  injection e with e1 e2 e3
  subst e1; subst e3
  exact ⟨hl, h1, h2, h3.more (Nat.zero_le _) hh⟩
theorem RetZ.mk {t : TypeId} {f : Value → Value} {zs : List Spr} {w w' : World} {sv : Value} (hl : zs.length ≤ 2097152) (h : w'.ownsRow w.heap.size t 2 sv zs.length (sprCells zs)) (hb : Below w.heap.size w w') : RetZ t f zs w (.returned (f sv)) w' := by
  have ho := OwZ.of_own h
  obtain ⟨A, c, rfl, _, _, _⟩ := ho.form
  exact ⟨A, c, rfl, ho.arg hl (Nat.le_refl _), ho, hb⟩
theorem RetZ.nil {t : TypeId} {f : Value → Value} {w w' : World} (hb : Below w.heap.size w w') : RetZ t f [] w (.returned (f (.slice none 0 0))) w' :=
  ⟨none, 0, rfl, ArgZ.nil _, OwZ.nil, hb⟩
/-- A SLICE THAT THE LAW HOLDS: where its cells lie is known, so that it is kept whatever is written elsewhere. -/
def HeldZ (lo hi : Nat) (w : World) (A : Option Addr) (c : Nat) (zs : List Spr) : Prop := RdZ lo hi w A zs ∧ hi ≤ w.heap.size ∧ zs.length ≤ 2097152 ∧ zs.length ≤ c ∧ c ≤ maxLen
section
variable {lo hi : Nat} {w w' : World} {A : Option Addr} {c : Nat} {zs : List Spr}
theorem HeldZ.go (h : HeldZ lo hi w A c zs) (hb : Below w.heap.size w w') : HeldZ lo hi w' A c zs :=
  ⟨h.1.below (hb.mono h.2.1), Nat.le_trans h.2.1 hb.size, h.2.2⟩
theorem HeldZ.grown (h : HeldZ lo hi w A c zs) {row : Option Nat} (hg : w.grownBy w' row) (hr : ∀ r, row = some r → r < lo ∨ hi ≤ r) : HeldZ lo hi w' A c zs :=
  ⟨h.1.grown hg hr, Nat.le_trans h.2.1 hg.size, h.2.2⟩
theorem HeldZ.arg (h : HeldZ lo hi w A c zs) : ArgZ w A c zs := ⟨h.2.2.1, h.2.2.2.1, h.2.2.2.2, h.1.more (Nat.zero_le _) h.2.1⟩
theorem ArgZ.held (h : ArgZ w A c zs) : HeldZ 0 w.heap.size w A c zs := ⟨h.2.2.2, Nat.le_refl _, h.1, h.2.1, h.2.2.1⟩
theorem OwZ.held {t : TypeId} (h : OwZ t lo hi w (.slice A zs.length c) zs) (hh : hi ≤ w.heap.size) (hl : zs.length ≤ 2097152) : HeldZ lo hi w A c zs := by
  obtain ⟨A', c', e, h1, h2, h3⟩ := h.form
  injection e with e1 e2 e3
  subst e1; subst e3
  exact ⟨h3, hh, hl, h1, h2⟩
theorem OwZ.range {t : TypeId} {sv : Value} (h : OwZ t lo hi w sv zs) : ∀ r, sv.ownBlock = some r → lo ≤ r ∧ r < hi := fun r e => ⟨(h.1.lt r e).1, h.2 r e⟩
theorem OwZ.go {t : TypeId} {sv : Value} (h : OwZ t lo hi w sv zs) (hb : Below w.heap.size w w') (hh : hi ≤ w.heap.size) : OwZ t lo hi w' sv zs := h.below hb hh
end

end Go.Proofs.Ytnekjhpocfdpnaa
