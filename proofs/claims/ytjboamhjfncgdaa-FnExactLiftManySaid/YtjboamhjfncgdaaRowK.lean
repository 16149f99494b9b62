/-
  A slice of rots as an argument: how it is opened, and read again behind the call. And the laws' measure of it.
-/
import Derived.Test.YtjboamhjfncgdaaRow
import Derived.Test.YtjboamhjfncgdaaMemK
import Derived.Test.YtjboamhjfncgdaaProg
import Derived.Deep.Slices
namespace Go.Proofs.Ytjboamhjfncgdaa
open Go.ChangeShapes Go.WideShapes Go.ChangeAt Go.RowKit

theorem row_cellsK : Try.prog.cellsOf 84 = 4 := by kernel_rfl

/-- a slice of rots as it comes in: of whatever length -/
def ArgK0 (w : World) (A : Option Addr) (c : Nat) (zs : List Rot) : Prop := zs.length ≤ c ∧ c ≤ maxLen ∧ RdK 0 w.heap.size w A zs
theorem ArgK0.arg {w : World} {A : Option Addr} {c : Nat} {zs : List Rot} (h : ArgK0 w A c zs) (hl : zs.length ≤ 2097152) : ArgK w A c zs := ⟨hl, h⟩

set_option maxRecDepth 100000 in
theorem one_rot {H : Type} {enc : TypeId × Value → H} {W : World} {base n : Nat} {sp : Nat → Bool} {hd : Bool} {cs : List Value} {y : DataW H × List MemPlace} (h : DataW.trod enc Try.prog W base sp hd n 84 cs = some y) :
    ∃ s : Rot, cs = rotCell s := by
  obtain ⟨xs, m, _, _, hl, hx, hg⟩ := DataW.trod_struct Try.underlying84 h
  rw [row_cellsK] at hl
  match cs, hl with
  | [a, b, c, d], _ =>
    have h0 : DataW.trod enc Try.prog W base sp hd m 3 (List.take (Try.prog.cellsOf 3) (List.drop 0 [a, b, c, d])) = xs[0]? := hg 0 _ rfl
    have h1 : DataW.trod enc Try.prog W base sp hd m 3 (List.take (Try.prog.cellsOf 3) (List.drop 1 [a, b, c, d])) = xs[1]? := hg 1 _ rfl
    have h2 : DataW.trod enc Try.prog W base sp hd m 3 (List.take (Try.prog.cellsOf 3) (List.drop 2 [a, b, c, d])) = xs[2]? := hg 2 _ rfl
    have h3 : DataW.trod enc Try.prog W base sp hd m 3 (List.take (Try.prog.cellsOf 3) (List.drop 3 [a, b, c, d])) = xs[3]? := hg 3 _ rfl
    rw [row_cells] at h0 h1 h2 h3
    match xs, hx with
    | [x0, x1, x2, x3], _ =>
      obtain ⟨z0, e0, _, _⟩ := DataW.trod_int Try.underlying3 h0
      obtain ⟨z1, e1, _, _⟩ := DataW.trod_int Try.underlying3 h1
      obtain ⟨z2, e2, _, _⟩ := DataW.trod_int Try.underlying3 h2
      obtain ⟨z3, e3, _, _⟩ := DataW.trod_int Try.underlying3 h3
      simp at e0 e1 e2 e3
      exact ⟨⟨z0, z1, z2, z3⟩, by rw [e0, e1, e2, e3]; rfl⟩

set_option maxRecDepth 100000 in
theorem open_rots {H : Type} {enc : TypeId × Value → H} {W : World} {base : Nat} {v : Value} {d : DataW H} {p : List MemPlace} (hval : Value.okWide Try.prog W .any base 38 v)
    (h : DataW.Trod enc Try.prog W 0 (fun _ => true) true 38 v d p) (hlt : ∀ x ∈ p, x.block < W.heap.size) : ∃ A c zs, v = .slice A (zs : List Rot).length c ∧ ArgK0 W A c zs := by
  obtain ⟨a0, len, cap, rfl⟩ := okWide_slice Try.underlying38 hval
  obtain ⟨fuel, hf⟩ := h
  rcases Deep.open_slice Try.underlying38 hf with ⟨hcs, hx⟩ | ⟨a, len', cap', m, n, D, Pl, hcs, _, hl, hm, hmm, hx, hi⟩
  · simp [Value.cells] at hcs
    obtain ⟨rfl, rfl, rfl⟩ := hcs
    exact ⟨none, 0, [], rfl, by simp, by simp, RdK.nil⟩
  · simp [Value.cells] at hcs
    obtain ⟨rfl, rfl, rfl⟩ := hcs
    simp only [if_true] at hmm
    rw [row_cellsK] at hx hi
    rw [hmm] at hx hi
    simp only [Prod.mk.injEq] at hx
    obtain ⟨rfl, rfl⟩ := hx
    have hsec : ∀ i, i < cap → ∃ s : Rot, ∀ j, j < 4 → W.cell? (a.add (i * 4 + j)) = (rotCell s)[j]? := fun i h => by
      obtain ⟨cs', hc, ht⟩ := hi i h
      obtain ⟨s, rfl⟩ := one_rot ht
      obtain ⟨_, _, hat⟩ := World.cells?_some hc
      refine ⟨s, fun j hj => ?_⟩
      have := hat j hj
      rwa [Deep.add_add] at this
    haveI : Inhabited Rot := ⟨Rot.zero⟩
    obtain ⟨f, hf⟩ := Deep.choose_lt (α := Rot) hsec
    have hlen : ((List.range len).map f).length = len := by simp
    refine ⟨some a, cap, (List.range len).map f, by rw [hlen], by rw [hlen]; exact hl, hm, fun h0 => ?_⟩
    rw [hlen] at h0
    obtain ⟨b, off, spot⟩ := a
    have hspot : spot = none := by simpa [Addr.add] using World.cell?_spot ((hf 0 (by omega) 0 (by omega)).trans rfl)
    subst hspot
    refine ⟨b, off, rfl, Nat.zero_le _, hlt (.cell b off) (List.mem_append.2 (.inl (MemPlace.mem_row.2 ⟨0, by omega, by simp⟩))), fun j hj => ?_⟩
    rw [hlen] at hj
    have e : rotAt ((List.range len).map f) j = f j := by simp [rotAt, hj]
    have k0 := hf j (by omega) 0 (by omega)
    have k1 := hf j (by omega) 1 (by omega)
    have k2 := hf j (by omega) 2 (by omega)
    have k3 := hf j (by omega) 3 (by omega)
    rw [add_plain] at k0 k1 k2 k3
    rw [e]
    exact ⟨k0, by rw [Nat.add_assoc]; exact k1, by rw [Nat.add_assoc]; exact k2, by rw [Nat.add_assoc]; exact k3⟩

set_option maxRecDepth 100000 in
theorem read_again_rots {H : Type} {enc : TypeId × Value → H} {W W' : World} {v : Value} {d : DataW H} {p : List MemPlace} (h : DataW.Trod enc Try.prog W 0 (fun _ => true) true 38 v d p) (hlt : ∀ x ∈ p, x.block < W.heap.size) (hb : Below W.heap.size W W') :
    DataW.Trod enc Try.prog W' 0 (fun b => decide (b < W.heap.size)) true 38 v d p :=
  Below.trod row_laidOut (by kernel_rfl) (of_decide_eq_true (by kernel_rfl)) h hb hlt

/-- szRouteS: what is left of a number -/
theorem szRouteS_yes (A : Option Addr) (c n : Nat) (k : Int) (w : World) (h : (n : Int) ≤ k) (hk : k ≤ 1048576) :
    Calls Try.prog 35 #[.slice A n c, .int .i64 k] w fun e w' => e = .returned (.int .i64 (k - (n : Int))) ∧ w = w' := by
  go_enter Try.func35, Try.ntmps35
  go_wp2
  go_ret
  exact ⟨rfl, rfl⟩
theorem szRouteS_no (A : Option Addr) (c n : Nat) (k : Int) (w : World) (h : k < (n : Int)) (hk : 0 ≤ k) (hn : n ≤ c) (hc : c ≤ maxLen) :
    Calls Try.prog 35 #[.slice A n c, .int .i64 k] w fun e w' => e = .returned (.int .i64 (-1)) ∧ w = w' := by
  unfold maxLen at hc
  go_enter Try.func35, Try.ntmps35
  go_wp2
  go_ret
  exact ⟨rfl, rfl⟩

end Go.Proofs.Ytjboamhjfncgdaa
