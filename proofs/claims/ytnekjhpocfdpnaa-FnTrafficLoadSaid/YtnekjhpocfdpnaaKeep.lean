/-
  Words for rows that are told: what a call leaves alone but for some blocks; a row in its own block, with room for ten.
-/
import Derived.Test.YtnekjhpocfdpnaaMem
namespace Go.Proofs.Ytnekjhpocfdpnaa
open Go.RowKit

/-- no block but those of p has turned -/
structure KeepBut (p : Nat → Prop) (w w' : World) : Prop where
  os : w'.os = w.os
  tape : w'.tape = w.tape
  output : w'.output = w.output
  size : w.heap.size ≤ w'.heap.size
  block : ∀ k, k < w.heap.size → ¬ p k → w'.heap[k]? = w.heap[k]?
section
variable {p q : Nat → Prop} {a b c : World}
theorem KeepBut.refl (p : Nat → Prop) (w : World) : KeepBut p w w := ⟨rfl, rfl, rfl, Nat.le_refl _, fun _ _ _ => rfl⟩
theorem KeepBut.trans (h : KeepBut p a b) (k : KeepBut p b c) : KeepBut p a c :=
  ⟨k.os.trans h.os, k.tape.trans h.tape, k.output.trans h.output, Nat.le_trans h.size k.size, fun i hi hp => (k.block i (Nat.lt_of_lt_of_le hi h.size) hp).trans (h.block i hi hp)⟩
theorem KeepBut.weak (h : KeepBut p a b) (hp : ∀ k, k < a.heap.size → p k → q k) : KeepBut q a b := ⟨h.os, h.tape, h.output, h.size, fun i hi hq => h.block i hi (fun x => hq (hp i hi x))⟩
theorem KeepBut.of_below (h : Below a.heap.size a b) : KeepBut p a b := ⟨h.os, h.tape, h.output, h.size, fun i hi _ => h.block i hi⟩
theorem KeepBut.of_grown {g : Nat} (h : a.grownBy b (some g)) (hg : p g) : KeepBut p a b := ⟨h.os, h.tape, h.output, h.size, fun i hi hp => h.block i hi (fun e => by injection e with e; subst e; exact hp hg)⟩
theorem KeepBut.below {B : Nat} (h : KeepBut p a b) (hp : ∀ k, p k → B ≤ k) (hB : B ≤ a.heap.size) : Below B a b := ⟨h.os, h.tape, h.output, h.size, fun k hk => h.block k (by omega) (fun x => by have := hp k x; omega)⟩
theorem KeepBut.cell {x : Addr} {v : Value} (h : KeepBut p a b) (hx : ¬ p x.block) (hc : a.cell? x = some v) : b.cell? x = some v :=
  (World.cell?_of_block (h.block x.block (World.block_lt_of_cell? _ _ hc) hx)).trans hc
theorem KeepBut.on (h : KeepBut p a b) (k : Below a.heap.size b c) : KeepBut p a c := ⟨k.os.trans h.os, k.tape.trans h.tape, k.output.trans h.output, Nat.le_trans h.size k.size, fun i hi hp => (k.block i hi).trans (h.block i hi hp)⟩
theorem KeepBut.then_ (h : KeepBut p a b) (k : KeepBut q b c) (hq : ∀ x, x < a.heap.size → q x → p x) : KeepBut p a c := ⟨k.os.trans h.os, k.tape.trans h.tape, k.output.trans h.output, Nat.le_trans h.size k.size, fun i hi hp => (k.block i (Nat.lt_of_lt_of_le hi h.size) (fun x => hp (hq i hi x))).trans (h.block i hi hp)⟩
theorem below_cell {B : Nat} {x : Addr} {v : Value} (h : Below B a b) (hx : x.block < B) (hc : a.cell? x = some v) : b.cell? x = some v := (h.cell hx).trans hc
end

/-- A ROW IN ITS OWN BLOCK rb, from B on, with room for ten -/
def RowAt (t : TypeId) (B rb : Nat) (W : World) (r : List Int) : Prop := W.ownsRow B t 1 (.slice (some ⟨rb, 0, none⟩) r.length 10) r.length (r.map (Value.int .i64))
section
variable {t : TypeId} {B rb : Nat} {W W' : World} {r s : List Int}
theorem RowAt.pre (h : RowAt t B rb W (r ++ s)) : RowAt t B rb W r := by
  obtain ⟨h1, h2⟩ := h
  refine ⟨by simp, .inr ?_⟩
  rcases h2 with ⟨h3, _⟩ | ⟨g, cap, cur, e, hg, hgg, hn, hm, hs, ht⟩
  · cases h3
  · injection e with e1 e2 e3
    injection e1 with e1
    injection e1 with e1
    subst e1; subst e3
    refine ⟨rb, 10, cur, rfl, hg, hgg, by simp at hn; omega, hm, hs, ?_⟩
    have h5 := congrArg (List.take (r.length * 1)) ht
    rw [List.take_take, Nat.min_eq_left (by simp)] at h5
    rw [h5, List.map_append, List.take_append_of_le_length (by simp), List.take_of_length_le (by simp)]
theorem RowAt.lt (h : RowAt t B rb W r) : B ≤ rb ∧ rb < W.heap.size := World.ownsRow.lt h rb rfl
theorem RowAt.len (h : RowAt t B rb W r) : r.length ≤ 10 := by
  rcases h.2 with ⟨h3, _⟩ | ⟨g, cap, cur, e, hg, hgg, hn, hm, hs, ht⟩
  · cases h3
  · injection e with e1 e2 e3
    omega
theorem RowAt.more {B' : Nat} (h : RowAt t B rb W r) (hB : B' ≤ B) : RowAt t B' rb W r := OwnsRow.more h hB
theorem RowAt.from_ {B' : Nat} (h : RowAt t B rb W r) (hB : B' ≤ rb) : RowAt t B' rb W r := by
  obtain ⟨h1, h2⟩ := h
  refine ⟨h1, .inr ?_⟩
  rcases h2 with ⟨h3, _⟩ | ⟨g, cap, cur, e, hg, hgg, rest⟩
  · cases h3
  · injection e with e1 e2 e3
    injection e1 with e1
    injection e1 with e1
    subst e1
    exact ⟨rb, cap, cur, by rw [e3], hB, hgg, rest⟩
theorem RowAt.arg (h : RowAt t B rb W r) : Arg W (some ⟨rb, 0, none⟩) 10 r := (Ow.of_own h).arg (by have := h.len; omega) (Nat.le_refl _)
theorem RowAt.of_block (h : RowAt t B rb W r) (hb : W'.heap[rb]? = W.heap[rb]?) : RowAt t B rb W' r := by
  obtain ⟨h1, h2⟩ := h
  refine ⟨h1, .inr ?_⟩
  rcases h2 with ⟨h3, _⟩ | ⟨g, cap, cur, e, hg, hgg, rest⟩
  · cases h3
  · injection e with e1 e2 e3
    injection e1 with e1
    injection e1 with e1
    subst e1
    exact ⟨rb, cap, cur, by rw [e3], hg, hb.trans hgg, rest⟩
theorem RowAt.below (h : RowAt t B rb W r) (hb : Below W.heap.size W W') : RowAt t B rb W' r := h.of_block (hb.block rb h.lt.2)
theorem RowAt.keep {p : Nat → Prop} (h : RowAt t B rb W r) (hk : KeepBut p W W') (hp : ¬ p rb) : RowAt t B rb W' r := h.of_block (hk.block rb h.lt.2 hp)
end

end Go.Proofs.Ytnekjhpocfdpnaa
