/-
  The cheapest row that is kept; slices.Clone at ints.
-/
import Derived.Test.YtnekjhpocfdpnaaKeep
import Derived.Test.YtnekjhpocfdpnaaApI0
import Derived.Test.YtnekjhpocfdpnaaSprM
import Derived.Lib.SliceRun
import Derived.RangeFuncBox
namespace Go.Proofs.Ytnekjhpocfdpnaa
open Go.RowKit

set_option maxRecDepth 100000 in
theorem cloneI_c (b off c : Nat) (zs : List Int) (w : World) (ha : Arg w (some ⟨b, off, none⟩) c zs) :
    Calls Try.prog 49 #[.slice (some ⟨b, off, none⟩) zs.length c] w (RetS 3 id zs w) := by
  obtain ⟨i0, hi, hz0, hz1, hz2⟩ := info_parts intInf
  have hl := ha.len
  have HA := Lib.hid ha
  clear ha
  have hnil := Lib.run_eql_slice_nil (P := Try.prog) w 24 3 (some ⟨b, off, none⟩) zs.length c 0 0 Try.underlying24
  go_enter Try.func49, Try.ntmps49
  go_wp2_with (at_builtin; refine wpList_append_ints rfl _ _ 24 rfl w.heap.size 3 i0 (.int .i64 0) Try.underlying24 hi hz0 hz1 hz2 rfl (.slice (some ⟨w.heap.size, 0, none⟩) 0 0) [] rfl (own_none w _) (some ⟨b, off, none⟩) c zs rfl (HA.out.go (below_none w _)) (by simp; omega) (by simp) ?_; intro v' w3 hown3 hg3; have H3 := Lib.hid (next1 hown3 hg3); clear hown3 hg3)
  go_ret
  exact RetS.mk (f := id) hl H3.out.1 H3.out.2

/-- the struct that keeps the cheapest row -/
def ChAt (W : World) (s : Nat) (sv : Value) (cost : Int) (fd : Bool) : Prop := W.heap[s]? = some (.cells #[sv, .int .i64 cost, .bool fd] 60 (0, 0))
section
variable {W W' : World} {s : Nat} {sv : Value} {cost : Int} {fd : Bool}
theorem ChAt.lt (h : ChAt W s sv cost fd) : s < W.heap.size := (Array.getElem?_eq_some_iff.1 h).1
theorem ChAt.c0 (h : ChAt W s sv cost fd) : W.cell? ⟨s, 0, none⟩ = some sv := cell_of_row _ _ 0 _ _ _ h
theorem ChAt.c1 (h : ChAt W s sv cost fd) : W.cell? ⟨s, 1, none⟩ = some (.int .i64 cost) := cell_of_row _ _ 1 _ _ _ h
theorem ChAt.c2 (h : ChAt W s sv cost fd) : W.cell? ⟨s, 2, none⟩ = some (.bool fd) := cell_of_row _ _ 2 _ _ _ h
theorem ChAt.frozen (h : ChAt W s sv cost fd) (o : Nat) : W.frozen? ⟨s, o, none⟩ = false := by simp [World.frozen?, show W.heap[s]? = _ from h]
theorem ChAt.keep {p : Nat → Prop} (h : ChAt W s sv cost fd) (hk : KeepBut p W W') (hp : ¬ p s) : ChAt W' s sv cost fd := (hk.block s h.lt hp).trans h
end
theorem block_set {W : World} {s : Nat} {cur : Array Value} {t : TypeId} (h : W.heap[s]? = some (.cells cur t (0, 0))) (o : Nat) (v : Value) : (W.setCell ⟨s, o, none⟩ v).heap[s]? = some (.cells (cur.setIfInBounds o v) t (0, 0)) := by
  obtain ⟨hlt, hk⟩ := Array.getElem?_eq_some_iff.1 h
  show (W.heap.modify s _)[s]? = _
  rw [Array.getElem?_eq_getElem (by rw [Array.size_modify]; exact hlt), Array.getElem_modify_self, hk]
  rfl
theorem grown_set (W : World) (b o : Nat) (v : Value) : W.grownBy (W.setCell ⟨b, o, none⟩ v) (some b) :=
  ⟨rfl, rfl, rfl, by show W.heap.size ≤ (W.heap.modify b _).size; simp, fun k _ hk => Below.heap_setCell _ _ _ k (fun e => hk (by rw [e]))⟩
theorem ChAt.set {W : World} {s : Nat} {sv : Value} {cost : Int} {fd : Bool} (h : ChAt W s sv cost fd) (sv' : Value) (cost' : Int) (fd' : Bool) : ChAt (((W.setCell ⟨s, 0, none⟩ sv').setCell ⟨s, 1, none⟩ (.int .i64 cost')).setCell ⟨s, 2, none⟩ (.bool fd')) s sv' cost' fd' ∧
    KeepBut (fun x => x = s) W (((W.setCell ⟨s, 0, none⟩ sv').setCell ⟨s, 1, none⟩ (.int .i64 cost')).setCell ⟨s, 2, none⟩ (.bool fd')) :=
  ⟨block_set (block_set (block_set h 0 sv') 1 _) 2 _, ((KeepBut.of_grown (p := fun x => x = s) (grown_set W s 0 _) rfl).trans (KeepBut.of_grown (p := fun x => x = s) (grown_set _ s 1 _) rfl)).trans (KeepBut.of_grown (p := fun x => x = s) (grown_set _ s 2 _) rfl)⟩
theorem Ow.but {p : Nat → Prop} {t : TypeId} {lo hi : Nat} {W W' : World} {sv : Value} {x : List Int} (h : Ow t lo hi W sv x) (hk : KeepBut p W W') (hh : hi ≤ W.heap.size) (hg : ∀ g, sv.ownBlock = some g → ¬ p g) : Ow t lo W'.heap.size W' sv x := by
  refine ⟨⟨h.1.1, ?_⟩, fun g e => by have := h.2 g e; have := hk.size; omega⟩
  rcases h.1.2 with h0 | ⟨g, cap, cur, rfl, hlo, hgg, rest⟩
  · exact .inl h0
  · have h3 := h.2 g rfl
    exact .inr ⟨g, cap, cur, rfl, hlo, (hk.block g (by omega) (hg g rfl)).trans hgg, rest⟩

/-- what is kept of the rows d that were told -/
def KeptB (c : List Int → Int) (lo s rb : Nat) (d : List (List Int)) (W : World) (sv : Value) (cost : Int) (fd : Bool) : Prop :=
  match bst c d with
  | none => fd = false ∧ sv = .slice none 0 0
  | some x => fd = true ∧ cost = c x ∧ x.length ≤ 10 ∧ Ow 3 lo W.heap.size W sv x ∧ ∀ g, sv.ownBlock = some g → g ≠ s ∧ g ≠ rb
def BestAt (c : List Int → Int) (lo s rb : Nat) (d : List (List Int)) (W : World) : Prop := ∃ sv cost fd, ChAt W s sv cost fd ∧ KeptB c lo s rb d W sv cost fd
theorem KeptB.keep {c : List Int → Int} {lo s rb : Nat} {d : List (List Int)} {W W' : World} {sv : Value} {cost : Int} {fd : Bool} {p : Nat → Prop} (h : KeptB c lo s rb d W sv cost fd) (hk : KeepBut p W W') (hp : ∀ x, p x → x = s ∨ x = rb) : KeptB c lo s rb d W' sv cost fd := by
  unfold KeptB at *
  cases hb : bst c d with
  | none => rw [hb] at h; exact h
  | some x =>
    rw [hb] at h
    obtain ⟨h1, h2, h3, h4, h5⟩ := h
    exact ⟨h1, h2, h3, h4.but hk (Nat.le_refl _) (fun g e hpg => by have := h5 g e; rcases hp g hpg with h6 | h6 <;> omega), h5⟩
theorem BestAt.keep {c : List Int → Int} {lo s rb : Nat} {d : List (List Int)} {W W' : World} {p : Nat → Prop} (h : BestAt c lo s rb d W) (hk : KeepBut p W W') (hp : ∀ x, p x → x = rb) (hs : s ≠ rb) : BestAt c lo s rb d W' := by
  obtain ⟨sv, cost, fd, h1, h2⟩ := h
  exact ⟨sv, cost, fd, h1.keep hk (fun h => hs (hp s h)), h2.keep hk (fun x hx => .inr (hp x hx))⟩
theorem KeptB.start (c : List Int → Int) (lo s rb : Nat) (W : World) (cost : Int) : KeptB c lo s rb [] W (.slice none 0 0) cost false := ⟨rfl, rfl⟩
/-- the kept one stays -/
theorem KeptB.stay {c : List Int → Int} {lo s rb : Nat} {d : List (List Int)} {W : World} {sv : Value} {cost : Int} {fd : Bool} {r : List Int} (h : KeptB c lo s rb d W sv cost fd) (hf : fd = true) (hc : ¬ c r < cost) : KeptB c lo s rb (d ++ [r]) W sv cost fd := by
  unfold KeptB at *
  rw [bst_snoc]
  cases hb : bst c d with
  | none => rw [hb] at h; rw [h.1] at hf; cases hf
  | some x =>
    rw [hb] at h
    simp only [mrg]
    rw [if_neg (by rw [← h.2.1]; exact hc)]
    exact h
/-- the row that was offered is kept -/
theorem KeptB.new {c : List Int → Int} {lo s rb : Nat} {d : List (List Int)} {W W' : World} {sv sv' : Value} {cost : Int} {fd : Bool} {r : List Int} (h : KeptB c lo s rb d W sv cost fd) (hc : fd = false ∨ c r < cost) (hl : r.length ≤ 10)
    (ho : Ow 3 lo W'.heap.size W' sv' r) (hg : ∀ g, sv'.ownBlock = some g → g ≠ s ∧ g ≠ rb) : KeptB c lo s rb (d ++ [r]) W' sv' (c r) true := by
  unfold KeptB at *
  rw [bst_snoc]
  cases hb : bst c d with
  | none => simp only [mrg]; exact ⟨trivial, trivial, hl, ho, hg⟩
  | some x =>
    rw [hb] at h
    simp only [mrg]
    have h2 : c r < c x := by
      rcases hc with hc | hc
      · rw [h.1] at hc; cases hc
      · rw [← h.2.1]; exact hc
    rw [if_pos h2]
    exact ⟨by first | rfl | trivial, by first | rfl | trivial, hl, ho, hg⟩


end Go.Proofs.Ytnekjhpocfdpnaa
