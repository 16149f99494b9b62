/-
  Words for a linked list of sections in memory, and its method add.
-/
import Derived.Test.YtodboccadccpfaaMemC
import Derived.Test.YtodboccadccpfaaProg
import Derived.Deep.LoopGhost
import Derived.StillTailTactics
namespace Go.Proofs.Ytodboccadccpfaa
open Go.RowKit

/-! ### what a call may turn -/
/-- ONLY BLOCKS OF P, AND NEW ONES, HAVE TURNED. -/
structure Frm (P : Nat → Prop) (w w' : World) : Prop where
  os : w'.os = w.os
  tape : w'.tape = w.tape
  output : w'.output = w.output
  size : w.heap.size ≤ w'.heap.size
  block : ∀ k, k < w.heap.size → ¬ P k → w'.heap[k]? = w.heap[k]?
section
variable {P Q : Nat → Prop} {a b w : World}
theorem Frm.refl (P : Nat → Prop) (w : World) : Frm P w w := ⟨rfl, rfl, rfl, Nat.le_refl _, fun _ _ _ => rfl⟩
theorem Frm.trans (h : Frm P a b) (k : Frm P b w) : Frm P a w :=
  ⟨k.os.trans h.os, k.tape.trans h.tape, k.output.trans h.output, Nat.le_trans h.size k.size, fun i hi hp => (k.block i (Nat.lt_of_lt_of_le hi h.size) hp).trans (h.block i hi hp)⟩
theorem Frm.drewN (h : Frm P a w) (n : Nat) : Frm P a (w.drewN n) := ⟨h.os, h.tape, h.output, h.size, h.block⟩
theorem Frm.alloc (h : Frm P a w) (o : Obj) : Frm P a (w.alloc o) :=
  h.trans ⟨rfl, rfl, rfl, by simp, fun k hk _ => Below.heap_alloc _ _ _ hk⟩
theorem Frm.setCell (h : Frm P a w) {p : Addr} (hp : P p.block) (u : Value) : Frm P a (w.setCell p u) :=
  h.trans ⟨rfl, rfl, rfl, by simp [World.setCell], fun k _ hn => Below.heap_setCell _ _ _ _ (fun e => hn (by rw [e]; exact hp))⟩
theorem Frm.mono (h : Frm P a w) (hPQ : ∀ k, P k → Q k) : Frm Q a w := ⟨h.os, h.tape, h.output, h.size, fun k hk hn => h.block k hk (fun hp => hn (hPQ k hp))⟩
theorem Frm.of_below {B : Nat} (h : Below B a w) (hB : ∀ k, k < a.heap.size → ¬ P k → k < B) : Frm P a w := ⟨h.os, h.tape, h.output, h.size, fun k hk hn => h.block k (hB k hk hn)⟩
theorem Frm.below {B : Nat} (h : Frm P a w) (hB : B ≤ a.heap.size) (hP : ∀ k, k < B → ¬ P k) : Below B a w := ⟨h.os, h.tape, h.output, h.size, fun k hk => h.block k (by omega) (hP k hk)⟩
end

/-! ### the nodes -/
def LinkAt (W : World) (b : Nat) (s : Sec) (nx : Value) : Prop := W.heap[b]? = some (.cells #[.int .i64 s.m, .int .i64 s.k, .int .i64 s.o, nx] 138 (0, 0))
def nxt : List (Nat × Sec) → Value
  | [] => .pointer none
  | x :: _ => .pointer (some ⟨x.1, 0, none⟩)
def lst (ns : List (Nat × Sec)) : Value := nxt ns.reverse
def Seg (W : World) : List (Nat × Sec) → Prop
  | [] => True
  | x :: r => LinkAt W x.1 x.2 (nxt r) ∧ Seg W r
theorem nxt_nil : nxt [] = .pointer none := rfl
theorem nxt_cons (x : Nat × Sec) (r : List (Nat × Sec)) : nxt (x :: r) = .pointer (some ⟨x.1, 0, none⟩) := rfl
theorem nxt_pointer (ns : List (Nat × Sec)) : ∃ u, nxt ns = .pointer u := by cases ns <;> exact ⟨_, rfl⟩
theorem lst_nil : lst [] = .pointer none := rfl
theorem lst_snoc (xs : List (Nat × Sec)) (x : Nat × Sec) : lst (xs ++ [x]) = .pointer (some ⟨x.1, 0, none⟩) := by simp [lst, nxt]
theorem lst_pointer (ns : List (Nat × Sec)) : ∃ u, lst ns = .pointer u := nxt_pointer _

section
variable {W W' : World} {b : Nat} {s : Sec} {nx : Value}
theorem LinkAt.lt (h : LinkAt W b s nx) : b < W.heap.size := (Array.getElem?_eq_some_iff.1 h).1
theorem LinkAt.c0 (h : LinkAt W b s nx) : W.cell? ⟨b, 0, none⟩ = some (.int .i64 s.m) := cell_of_row _ _ 0 _ _ _ h
theorem LinkAt.c1 (h : LinkAt W b s nx) : W.cell? ⟨b, 1, none⟩ = some (.int .i64 s.k) := cell_of_row _ _ 1 _ _ _ h
theorem LinkAt.c2 (h : LinkAt W b s nx) : W.cell? ⟨b, 2, none⟩ = some (.int .i64 s.o) := cell_of_row _ _ 2 _ _ _ h
theorem LinkAt.c3 (h : LinkAt W b s nx) : W.cell? ⟨b, 3, none⟩ = some nx := cell_of_row _ _ 3 _ _ _ h
theorem LinkAt.fz (h : LinkAt W b s nx) (i : Nat) : W.frozen? ⟨b, i, none⟩ = false := by unfold LinkAt at h; simp [World.frozen?, h]
theorem LinkAt.kept (h : LinkAt W b s nx) (hk : W'.heap[b]? = W.heap[b]?) : LinkAt W' b s nx := hk.trans h
theorem LinkAt.set3 (h : LinkAt W b s nx) (u : Value) : LinkAt (W.setCell ⟨b, 3, none⟩ u) b s u := by
  unfold LinkAt at h ⊢
  simp [World.setCell, Array.getElem?_modify, h]
theorem LinkAt.set0 (h : LinkAt W b s nx) (z : Int) : LinkAt (W.setCell ⟨b, 0, none⟩ (.int .i64 z)) b ⟨z, s.k, s.o⟩ nx := by
  unfold LinkAt at h ⊢
  simp [World.setCell, Array.getElem?_modify, h]
theorem LinkAt.far (h : LinkAt W b s nx) {p : Addr} (hp : b ≠ p.block) (u : Value) : LinkAt (W.setCell p u) b s nx := (Below.heap_setCell W p u b hp).trans h
end

theorem Seg.lt {W : World} : ∀ {ns : List (Nat × Sec)}, Seg W ns → ∀ x ∈ ns, x.1 < W.heap.size
  | [], _, x, hx => by simp at hx
  | y :: r, h, x, hx => by
    rcases List.mem_cons.1 hx with rfl | hx
    · exact h.1.lt
    · exact Seg.lt h.2 x hx
theorem Seg.kept {W W' : World} : ∀ {ns : List (Nat × Sec)}, Seg W ns → (∀ x ∈ ns, W'.heap[x.1]? = W.heap[x.1]?) → Seg W' ns
  | [], _, _ => trivial
  | y :: r, h, hk => ⟨h.1.kept (hk y (by simp)), Seg.kept h.2 (fun x hx => hk x (by simp [hx]))⟩
theorem Seg.far {W : World} {ns : List (Nat × Sec)} (h : Seg W ns) {p : Addr} (hp : ∀ x ∈ ns, x.1 ≠ p.block) (u : Value) : Seg (W.setCell p u) ns :=
  h.kept (fun x hx => Below.heap_setCell W p u x.1 (hp x hx))
theorem Seg.alloc {W : World} {ns : List (Nat × Sec)} (h : Seg W ns) (o : Obj) : Seg (W.alloc o) ns :=
  h.kept (fun x hx => Below.heap_alloc W o x.1 (h.lt x hx))
theorem Seg.tail {W : World} : ∀ {xs ys : List (Nat × Sec)}, Seg W (xs ++ ys) → Seg W ys
  | [], _, h => h
  | _ :: _, _, h => Seg.tail h.2
theorem Seg.mid {W : World} {xs ys : List (Nat × Sec)} {x : Nat × Sec} (h : Seg W (xs ++ x :: ys)) : LinkAt W x.1 x.2 (nxt ys) := h.tail.1
/-- a node more at the end -/
theorem Seg.snoc {W : World} {x y : Nat × Sec} : ∀ {xs : List (Nat × Sec)}, Seg W (xs ++ [x]) → (∀ z ∈ xs, z.1 ≠ x.1) → LinkAt W y.1 y.2 (.pointer none) → y.1 ≠ x.1 →
    Seg (W.setCell ⟨x.1, 3, none⟩ (.pointer (some ⟨y.1, 0, none⟩))) (xs ++ [x] ++ [y])
  | [], h, _, hy, hne => ⟨h.1.set3 _, hy.far hne _, trivial⟩
  | z :: xs, h, hz, hy, hne => by
    refine ⟨?_, Seg.snoc h.2 (fun u hu => hz u (by simp [hu])) hy hne⟩
    have h1 := h.1.far (p := ⟨x.1, 3, none⟩) (hz z (by simp)) (.pointer (some ⟨y.1, 0, none⟩))
    cases xs <;> exact h1

/-! ### the chain -/
/-- THE CHAIN AT BLOCK C HOLDS THE NODES ns (block and section); its blocks are of P. -/
def Chain (P : Nat → Prop) (W : World) (C : Nat) (ns : List (Nat × Sec)) : Prop :=
  W.heap[C]? = some (.cells #[nxt ns, lst ns] 135 (0, 0)) ∧ Seg W ns ∧ (ns.map (·.1)).Nodup ∧ P C ∧ ∀ x ∈ ns, P x.1
section
variable {P Q : Nat → Prop} {W W' : World} {C : Nat} {ns : List (Nat × Sec)}
theorem Chain.c0 (h : Chain P W C ns) : W.cell? ⟨C, 0, none⟩ = some (nxt ns) := cell_of_row _ _ 0 _ _ _ h.1
theorem Chain.c1 (h : Chain P W C ns) : W.cell? ⟨C, 1, none⟩ = some (lst ns) := cell_of_row _ _ 1 _ _ _ h.1
theorem Chain.fz (h : Chain P W C ns) (i : Nat) : W.frozen? ⟨C, i, none⟩ = false := by simp [World.frozen?, h.1]
theorem Chain.lt (h : Chain P W C ns) : C < W.heap.size := (Array.getElem?_eq_some_iff.1 h.1).1
theorem Chain.seg (h : Chain P W C ns) : Seg W ns := h.2.1
theorem Chain.mono (h : Chain P W C ns) (hPQ : ∀ k, P k → Q k) : Chain Q W C ns := ⟨h.1, h.2.1, h.2.2.1, hPQ _ h.2.2.2.1, fun x hx => hPQ _ (h.2.2.2.2 x hx)⟩
theorem Chain.kept (h : Chain P W C ns) (hf : Frm Q W W') (hPQ : ∀ k, k < W.heap.size → P k → ¬ Q k) : Chain P W' C ns :=
  ⟨(hf.block C h.lt (hPQ C h.lt h.2.2.2.1)).trans h.1, h.2.1.kept (fun x hx => hf.block _ (h.2.1.lt x hx) (hPQ _ (h.2.1.lt x hx) (h.2.2.2.2 x hx))), h.2.2⟩
theorem Chain.go (h : Chain P W C ns) (hb : Below W.heap.size W W') : Chain P W' C ns :=
  h.kept (Q := fun _ => False) (Frm.of_below hb (fun _ hk _ => hk)) (fun _ _ _ hq => hq)
theorem Chain.drewN (h : Chain P W C ns) (n : Nat) : Chain P (W.drewN n) C ns := h.kept (Q := fun _ => False) ((Frm.refl _ _).drewN n) (fun _ _ _ hq => hq)
/-- the chain's own block is no node -/
theorem Chain.ne (h : Chain P W C ns) : ∀ x ∈ ns, x.1 ≠ C := by
  intro x hx e
  obtain ⟨xs, ys, rfl⟩ := List.append_of_mem hx
  have h1 := h.2.1.mid
  have h2 := h.1
  rw [← e] at h2
  unfold LinkAt at h1
  rw [h1] at h2
  simp at h2
theorem Chain.new (W : World) (hP : P W.heap.size) : Chain P (W.alloc (.cells #[.pointer none, .pointer none] 135)) W.heap.size [] :=
  ⟨heap_alloc_new W _, trivial, List.nodup_nil, hP, fun x hx => by simp at hx⟩
end

/-- WHAT add LEAVES: a node more; only the chain's blocks have turned. -/
def RetAdd (P : Nat → Prop) (C : Nat) (ns : List (Nat × Sec)) (s : Sec) (w : World) (e : Ending) (w' : World) : Prop :=
  (∃ v, e = .returned v) ∧ (∃ N, Chain P w' C (ns ++ [(N, s)])) ∧ Frm P w w'

theorem lst_one (x : Nat × Sec) : lst [x] = .pointer (some ⟨x.1, 0, none⟩) := rfl

theorem heap_new2 (w : World) (o o2 : Obj) : ((w.alloc o).alloc o2).heap[w.heap.size + 1]? = some o2 := by
  have h := heap_alloc_new (w.alloc o) o2
  have e : (w.alloc o).heap.size = w.heap.size + 1 := by simp
  rwa [e] at h
theorem heap_set1 {w : World} {C : Nat} {a b : Value} {t : TypeId} (h : w.heap[C]? = some (.cells #[a, b] t (0, 0))) (u : Value) : (w.setCell ⟨C, 1, none⟩ u).heap[C]? = some (.cells #[a, u] t (0, 0)) := by
  simp [World.setCell, Array.getElem?_modify, h]
theorem heap_set0 {w : World} {C : Nat} {a b : Value} {t : TypeId} (h : w.heap[C]? = some (.cells #[a, b] t (0, 0))) (u : Value) : (w.setCell ⟨C, 0, none⟩ u).heap[C]? = some (.cells #[u, b] t (0, 0)) := by
  simp [World.setCell, Array.getElem?_modify, h]

/-- what the stores of add make of the chain -/
theorem add_empty {P : Nat → Prop} {C : Nat} {s : Sec} {w : World} (h : Chain P w C []) (hP : ∀ k, w.heap.size ≤ k → P k) (o : Obj) :
    RetAdd P C [] s w (.returned (.tuple #[])) ((((w.alloc o).alloc (.cells #[.int .i64 s.m, .int .i64 s.k, .int .i64 s.o, .pointer none] 138)).setCell ⟨C, 0, none⟩ (.pointer (some ⟨w.heap.size + 1, 0, none⟩))).setCell ⟨C, 1, none⟩ (.pointer (some ⟨w.heap.size + 1, 0, none⟩))) := by
  have hlt := h.lt
  have hC := h.1
  refine ⟨⟨_, rfl⟩, ⟨w.heap.size + 1, ?_, ?_, by simp, h.2.2.2.1, ?_⟩, ?_⟩
  · have e1 : ((w.alloc o).alloc (.cells #[.int .i64 s.m, .int .i64 s.k, .int .i64 s.o, .pointer none] 138)).heap[C]? = w.heap[C]? :=
      (Below.heap_alloc _ _ C (by simp; omega)).trans (Below.heap_alloc _ _ C hlt)
    rw [List.nil_append, nxt_cons, lst_one]
    exact heap_set1 (heap_set0 (e1.trans hC) _) _
  · refine ⟨?_, trivial⟩
    have e1 : LinkAt ((w.alloc o).alloc (.cells #[.int .i64 s.m, .int .i64 s.k, .int .i64 s.o, .pointer none] 138)) (w.heap.size + 1) s (.pointer none) := heap_new2 w o _
    exact (e1.far (p := ⟨C, 0, none⟩) (by dsimp only; omega) _).far (p := ⟨C, 1, none⟩) (by dsimp only; omega) _
  · intro x hx
    simp only [List.nil_append, List.mem_singleton] at hx
    subst hx
    exact hP _ (by dsimp only; omega)
  · exact ((((Frm.refl P w).alloc _).alloc _).setCell (p := ⟨C, 0, none⟩) h.2.2.2.1 _).setCell (p := ⟨C, 1, none⟩) h.2.2.2.1 _
theorem add_more {P : Nat → Prop} {C : Nat} {xs : List (Nat × Sec)} {x : Nat × Sec} {s : Sec} {w : World} (h : Chain P w C (xs ++ [x])) (hP : ∀ k, w.heap.size ≤ k → P k) (o : Obj) :
    RetAdd P C (xs ++ [x]) s w (.returned (.tuple #[])) ((((w.alloc o).alloc (.cells #[.int .i64 s.m, .int .i64 s.k, .int .i64 s.o, .pointer none] 138)).setCell ⟨x.1, 3, none⟩ (.pointer (some ⟨w.heap.size + 1, 0, none⟩))).setCell ⟨C, 1, none⟩ (.pointer (some ⟨w.heap.size + 1, 0, none⟩))) := by
  have hlt := h.lt
  have hC := h.1
  have hx : x.1 < w.heap.size := h.2.1.lt x (by simp)
  have hxC : x.1 ≠ C := h.ne x (by simp)
  have hnd := h.2.2.1
  have hPx := h.2.2.2.2 x (by simp)
  refine ⟨⟨_, rfl⟩, ⟨w.heap.size + 1, ?_, ?_, ?_, h.2.2.2.1, ?_⟩, ?_⟩
  · have e1 : ((w.alloc o).alloc (.cells #[.int .i64 s.m, .int .i64 s.k, .int .i64 s.o, .pointer none] 138)).heap[C]? = w.heap[C]? :=
      (Below.heap_alloc _ _ C (by simp; omega)).trans (Below.heap_alloc _ _ C hlt)
    have e2 := (Below.heap_setCell ((w.alloc o).alloc (.cells #[.int .i64 s.m, .int .i64 s.k, .int .i64 s.o, .pointer none] 138)) ⟨x.1, 3, none⟩ (.pointer (some ⟨w.heap.size + 1, 0, none⟩)) C (fun e => hxC e.symm)).trans (e1.trans hC)
    have e3 : nxt (xs ++ [x] ++ [(w.heap.size + 1, s)]) = nxt (xs ++ [x]) := by cases xs <;> rfl
    rw [lst_snoc, e3]
    exact heap_set1 e2 _
  · have e1 : LinkAt ((w.alloc o).alloc (.cells #[.int .i64 s.m, .int .i64 s.k, .int .i64 s.o, .pointer none] 138)) (w.heap.size + 1) s (.pointer none) := heap_new2 w o _
    have hz : ∀ z ∈ xs, z.1 ≠ x.1 := by
      intro z hz e
      rw [List.map_append] at hnd
      have := (List.nodup_append.1 hnd).2.2 z.1 (List.mem_map.2 ⟨z, hz, rfl⟩) x.1 (by simp)
      exact this e
    refine (((h.2.1.alloc o).alloc _).snoc hz (y := (w.heap.size + 1, s)) e1 (by dsimp only; omega)).far (p := ⟨C, 1, none⟩) ?_ _
    intro z hz
    dsimp only
    rcases List.mem_append.1 hz with hz | hz
    · exact h.ne z hz
    · simp only [List.mem_singleton] at hz
      subst hz
      dsimp only
      omega
  · rw [List.map_append, List.nodup_append]
    refine ⟨hnd, by simp, ?_⟩
    intro a ha b hb
    obtain ⟨z, hz, rfl⟩ := List.mem_map.1 ha
    have := h.2.1.lt z hz
    simp only [List.map_cons, List.map_nil, List.mem_singleton] at hb
    omega
  · intro z hz
    rcases List.mem_append.1 hz with hz | hz
    · exact h.2.2.2.2 z hz
    · simp only [List.mem_singleton] at hz
      subst hz
      exact hP _ (by dsimp only; omega)
  · exact ((((Frm.refl P w).alloc _).alloc _).setCell (p := ⟨x.1, 3, none⟩) hPx _).setCell (p := ⟨C, 1, none⟩) h.2.2.2.1 _

theorem norm2 (w : World) (o o2 : Obj) (a i b j : Nat) (u v : Value) (ha : a < w.heap.size) (hb : b < w.heap.size) :
    (((w.alloc o).alloc o2).setCell ⟨a, i, none⟩ u).setCell ⟨b, j, none⟩ v = (((w.setCell ⟨a, i, none⟩ u).setCell ⟨b, j, none⟩ v).alloc o).alloc o2 := by
  have s1 : a < (w.alloc o).heap.size := by simp; omega
  have s2 : b < (w.setCell ⟨a, i, none⟩ u).heap.size := by simp [World.setCell]; omega
  have s3 : b < ((w.setCell ⟨a, i, none⟩ u).alloc o).heap.size := by simp [World.setCell]; omega
  rw [World.setCell_alloc_past _ _ _ _ s1, World.setCell_alloc_past _ _ _ _ ha, World.setCell_alloc_past _ _ _ _ s3, World.setCell_alloc_past _ _ _ _ s2]

set_option maxRecDepth 100000 in
set_option maxHeartbeats 400000 in
theorem add_c (P : Nat → Prop) (C : Nat) (ns : List (Nat × Sec)) (s : Sec) (w : World) (h : Chain P w C ns) (hP : ∀ k, w.heap.size ≤ k → P k) :
    Calls Try.prog 109 #[.pointer (some ⟨C, 0, none⟩), .agg #[.int .i64 s.m, .int .i64 s.k, .int .i64 s.o]] w (RetAdd P C ns s w) := by
  have hc0 := h.c0
  have hc1 := h.c1
  have hf0 := h.fz 0
  have hf1 := h.fz 1
  have hlt := h.lt
  rcases List.eq_nil_or_concat ns with rfl | ⟨xs, x, rfl⟩
  · rw [lst_nil] at hc1
    rw [nxt_nil] at hc0
    have HR := Lib.hid (fun o => add_empty (s := s) h hP o)
    have HN := Lib.hid (fun o o2 u v => norm2 w o o2 C 0 C 1 u v hlt hlt)
    clear h hP
    go_enter Try.func109, Try.ntmps109
    go_wp2
    go_end0
    rw [← HN.out]
    exact HR.out _
  · rw [List.concat_eq_append] at h hc1 ⊢
    rw [lst_snoc] at hc1
    have hl := h.2.1.mid
    have hx3 := hl.c3
    have hxf := hl.fz 3
    have hxl := hl.lt
    have HR := Lib.hid (fun o => add_more (s := s) h hP o)
    have HN := Lib.hid (fun o o2 u v => norm2 w o o2 x.1 3 C 1 u v hxl hlt)
    rw [nxt_nil] at hx3
    clear hc0 hl h hP
    go_enter Try.func109, Try.ntmps109
    go_wp2
    go_end0
    rw [← HN.out]
    exact HR.out _

end Go.Proofs.Ytodboccadccpfaa
