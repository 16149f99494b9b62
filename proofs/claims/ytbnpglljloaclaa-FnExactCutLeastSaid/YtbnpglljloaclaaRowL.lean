/-
  A slice of lins as an argument: how it is opened, and read again behind the call. And the laws' measure of it.
-/
import Derived.Test.YtbnpglljloaclaaRow
import Derived.Test.YtbnpglljloaclaaMemL
import Derived.Test.YtbnpglljloaclaaProg
import Derived.Deep.Slices
namespace Go.Proofs.Ytbnpglljloaclaa
open Go.ChangeShapes Go.WideShapes Go.ChangeAt Go.RowKit

theorem row_cellsL : Try.prog.cellsOf 74 = 3 := by kernel_rfl

/-- a slice of lins as it comes in: of whatever length -/
def ArgL0 (w : World) (A : Option Addr) (c : Nat) (zs : List Lin) : Prop := zs.length ≤ c ∧ c ≤ maxLen ∧ RdL 0 w.heap.size w A zs
theorem ArgL0.arg {w : World} {A : Option Addr} {c : Nat} {zs : List Lin} (h : ArgL0 w A c zs) (hl : zs.length ≤ 2097152) : ArgL w A c zs := ⟨hl, h⟩

set_option maxRecDepth 100000 in
theorem one_lin {H : Type} {enc : TypeId × Value → H} {W : World} {base n : Nat} {sp : Nat → Bool} {hd : Bool} {cs : List Value} {y : DataW H × List MemPlace} (h : DataW.trod enc Try.prog W base sp hd n 74 cs = some y) :
    ∃ s : Lin, cs = linCell s := by
  obtain ⟨xs, m, _, _, hl, hx, hg⟩ := DataW.trod_struct Try.underlying74 h
  rw [row_cellsL] at hl
  match cs, hl with
  | [a, b, c], _ =>
    have h0 : DataW.trod enc Try.prog W base sp hd m 3 (List.take (Try.prog.cellsOf 3) (List.drop 0 [a, b, c])) = xs[0]? := hg 0 _ rfl
    have h1 : DataW.trod enc Try.prog W base sp hd m 3 (List.take (Try.prog.cellsOf 3) (List.drop 1 [a, b, c])) = xs[1]? := hg 1 _ rfl
    have h2 : DataW.trod enc Try.prog W base sp hd m 3 (List.take (Try.prog.cellsOf 3) (List.drop 2 [a, b, c])) = xs[2]? := hg 2 _ rfl
    rw [row_cells] at h0 h1 h2
    match xs, hx with
    | [x0, x1, x2], _ =>
      obtain ⟨z0, e0, _, _⟩ := DataW.trod_int Try.underlying3 h0
      obtain ⟨z1, e1, _, _⟩ := DataW.trod_int Try.underlying3 h1
      obtain ⟨z2, e2, _, _⟩ := DataW.trod_int Try.underlying3 h2
      simp at e0 e1 e2
      exact ⟨⟨z0, z1, z2⟩, by rw [e0, e1, e2]; rfl⟩

set_option maxRecDepth 100000 in
theorem open_lins {H : Type} {enc : TypeId × Value → H} {W : World} {base : Nat} {v : Value} {d : DataW H} {p : List MemPlace} (hval : Value.okWide Try.prog W .any base 41 v)
    (h : DataW.Trod enc Try.prog W 0 (fun _ => true) true 41 v d p) (hlt : ∀ x ∈ p, x.block < W.heap.size) : ∃ A c zs, v = .slice A (zs : List Lin).length c ∧ ArgL0 W A c zs := by
  obtain ⟨a0, len, cap, rfl⟩ := okWide_slice Try.underlying41 hval
  obtain ⟨fuel, hf⟩ := h
  rcases Deep.open_slice Try.underlying41 hf with ⟨hcs, hx⟩ | ⟨a, len', cap', m, n, D, Pl, hcs, _, hl, hm, hmm, hx, hi⟩
  · simp [Value.cells] at hcs
    obtain ⟨rfl, rfl, rfl⟩ := hcs
    exact ⟨none, 0, [], rfl, by simp, by simp, RdL.nil⟩
  · simp [Value.cells] at hcs
    obtain ⟨rfl, rfl, rfl⟩ := hcs
    simp only [if_true] at hmm
    rw [row_cellsL] at hx hi
    rw [hmm] at hx hi
    simp only [Prod.mk.injEq] at hx
    obtain ⟨rfl, rfl⟩ := hx
    have hsec : ∀ i, i < cap → ∃ s : Lin, ∀ j, j < 3 → W.cell? (a.add (i * 3 + j)) = (linCell s)[j]? := fun i h => by
      obtain ⟨cs', hc, ht⟩ := hi i h
      obtain ⟨s, rfl⟩ := one_lin ht
      obtain ⟨_, _, hat⟩ := World.cells?_some hc
      refine ⟨s, fun j hj => ?_⟩
      have := hat j hj
      rwa [Deep.add_add] at this
    haveI : Inhabited Lin := ⟨Lin.zero⟩
    obtain ⟨f, hf⟩ := Deep.choose_lt (α := Lin) hsec
    have hlen : ((List.range len).map f).length = len := by simp
    refine ⟨some a, cap, (List.range len).map f, by rw [hlen], by rw [hlen]; exact hl, hm, fun h0 => ?_⟩
    rw [hlen] at h0
    obtain ⟨b, off, spot⟩ := a
    have hspot : spot = none := by simpa [Addr.add] using World.cell?_spot ((hf 0 (by omega) 0 (by omega)).trans rfl)
    subst hspot
    refine ⟨b, off, rfl, Nat.zero_le _, hlt (.cell b off) (List.mem_append.2 (.inl (MemPlace.mem_row.2 ⟨0, by omega, by simp⟩))), fun j hj => ?_⟩
    rw [hlen] at hj
    have e : linAt ((List.range len).map f) j = f j := by simp [linAt, hj]
    have k0 := hf j (by omega) 0 (by omega)
    have k1 := hf j (by omega) 1 (by omega)
    have k2 := hf j (by omega) 2 (by omega)
    rw [add_plain] at k0 k1 k2
    rw [e]
    exact ⟨k0, by rw [Nat.add_assoc]; exact k1, by rw [Nat.add_assoc]; exact k2⟩

set_option maxRecDepth 100000 in
theorem read_again_lins {H : Type} {enc : TypeId × Value → H} {W W' : World} {v : Value} {d : DataW H} {p : List MemPlace} (h : DataW.Trod enc Try.prog W 0 (fun _ => true) true 41 v d p) (hlt : ∀ x ∈ p, x.block < W.heap.size) (hb : Below W.heap.size W W') :
    DataW.Trod enc Try.prog W' 0 (fun b => decide (b < W.heap.size)) true 41 v d p :=
  Below.trod row_laidOut (by kernel_rfl) (of_decide_eq_true (by kernel_rfl)) h hb hlt

/-- szLineS: what is left of a number -/
theorem szLineS_yes (A : Option Addr) (c n : Nat) (k : Int) (w : World) (h : (n : Int) ≤ k) (hk : k ≤ 1048576) :
    Calls Try.prog 29 #[.slice A n c, .int .i64 k] w fun e w' => e = .returned (.int .i64 (k - (n : Int))) ∧ w = w' := by
  go_enter Try.func29, Try.ntmps29
  go_wp2
  go_ret
  exact ⟨rfl, rfl⟩
theorem szLineS_no (A : Option Addr) (c n : Nat) (k : Int) (w : World) (h : k < (n : Int)) (hk : 0 ≤ k) (hn : n ≤ c) (hc : c ≤ maxLen) :
    Calls Try.prog 29 #[.slice A n c, .int .i64 k] w fun e w' => e = .returned (.int .i64 (-1)) ∧ w = w' := by
  unfold maxLen at hc
  go_enter Try.func29, Try.ntmps29
  go_wp2
  go_ret
  exact ⟨rfl, rfl⟩

end Go.Proofs.Ytbnpglljloaclaa
