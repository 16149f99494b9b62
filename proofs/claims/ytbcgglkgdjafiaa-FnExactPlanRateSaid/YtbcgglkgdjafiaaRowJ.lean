/-
  A slice of jbss as an argument: how it is opened, and read again behind the call. And the laws' measure of it.
-/
import Derived.Test.YtbcgglkgdjafiaaRow
import Derived.Test.YtbcgglkgdjafiaaMemJ
import Derived.Test.YtbcgglkgdjafiaaProg
import Derived.Deep.Slices
namespace Go.Proofs.Ytbcgglkgdjafiaa
open Go.ChangeShapes Go.WideShapes Go.ChangeAt Go.RowKit

theorem row_cellsJ : Try.prog.cellsOf 53 = 2 := by kernel_rfl

/-- a slice of jbss as it comes in: of whatever length -/
def ArgJ0 (w : World) (A : Option Addr) (c : Nat) (zs : List Jbs) : Prop := zs.length ≤ c ∧ c ≤ maxLen ∧ RdJ 0 w.heap.size w A zs
theorem ArgJ0.arg {w : World} {A : Option Addr} {c : Nat} {zs : List Jbs} (h : ArgJ0 w A c zs) (hl : zs.length ≤ 2097152) : ArgJ w A c zs := ⟨hl, h⟩

set_option maxRecDepth 100000 in
theorem one_jbs {H : Type} {enc : TypeId × Value → H} {W : World} {base n : Nat} {sp : Nat → Bool} {hd : Bool} {cs : List Value} {y : DataW H × List MemPlace} (h : DataW.trod enc Try.prog W base sp hd n 53 cs = some y) :
    ∃ s : Jbs, cs = jbsCell s := by
  obtain ⟨xs, m, _, _, hl, hx, hg⟩ := DataW.trod_struct Try.underlying53 h
  rw [row_cellsJ] at hl
  match cs, hl with
  | [a, b], _ =>
    have h0 : DataW.trod enc Try.prog W base sp hd m 3 (List.take (Try.prog.cellsOf 3) (List.drop 0 [a, b])) = xs[0]? := hg 0 _ rfl
    have h1 : DataW.trod enc Try.prog W base sp hd m 3 (List.take (Try.prog.cellsOf 3) (List.drop 1 [a, b])) = xs[1]? := hg 1 _ rfl
    rw [row_cells] at h0 h1
    match xs, hx with
    | [x0, x1], _ =>
      obtain ⟨z0, e0, _, _⟩ := DataW.trod_int Try.underlying3 h0
      obtain ⟨z1, e1, _, _⟩ := DataW.trod_int Try.underlying3 h1
      simp at e0 e1
      exact ⟨⟨z0, z1⟩, by rw [e0, e1]; rfl⟩

theorem open_jbss {H : Type} {enc : TypeId × Value → H} {W : World} {base : Nat} {v : Value} {d : DataW H} {p : List MemPlace} (hval : Value.okWide Try.prog W .any base 25 v)
    (h : DataW.Trod enc Try.prog W 0 (fun _ => true) true 25 v d p) (hlt : ∀ x ∈ p, x.block < W.heap.size) : ∃ A c zs, v = .slice A (zs : List Jbs).length c ∧ ArgJ0 W A c zs := by
  obtain ⟨a0, len, cap, rfl⟩ := okWide_slice Try.underlying25 hval
  obtain ⟨fuel, hf⟩ := h
  rcases Deep.open_slice Try.underlying25 hf with ⟨hcs, hx⟩ | ⟨a, len', cap', m, n, D, Pl, hcs, _, hl, hm, hmm, hx, hi⟩
  · simp [Value.cells] at hcs
    obtain ⟨rfl, rfl, rfl⟩ := hcs
    exact ⟨none, 0, [], rfl, by simp, by simp, RdJ.nil⟩
  · simp [Value.cells] at hcs
    obtain ⟨rfl, rfl, rfl⟩ := hcs
    simp only [if_true] at hmm
    rw [row_cellsJ] at hx hi
    rw [hmm] at hx hi
    simp only [Prod.mk.injEq] at hx
    obtain ⟨rfl, rfl⟩ := hx
    have hsec : ∀ i, i < cap → ∃ s : Jbs, ∀ j, j < 2 → W.cell? (a.add (i * 2 + j)) = (jbsCell s)[j]? := fun i h => by
      obtain ⟨cs', hc, ht⟩ := hi i h
      obtain ⟨s, rfl⟩ := one_jbs ht
      obtain ⟨_, _, hat⟩ := World.cells?_some hc
      refine ⟨s, fun j hj => ?_⟩
      have := hat j hj
      rwa [Deep.add_add] at this
    haveI : Inhabited Jbs := ⟨Jbs.zero⟩
    obtain ⟨f, hf⟩ := Deep.choose_lt (α := Jbs) hsec
    have hlen : ((List.range len).map f).length = len := by simp
    refine ⟨some a, cap, (List.range len).map f, by rw [hlen], by rw [hlen]; exact hl, hm, fun h0 => ?_⟩
    rw [hlen] at h0
    obtain ⟨b, off, spot⟩ := a
    have hspot : spot = none := by simpa [Addr.add] using World.cell?_spot ((hf 0 (by omega) 0 (by omega)).trans rfl)
    subst hspot
    refine ⟨b, off, rfl, Nat.zero_le _, hlt (.cell b off) (List.mem_append.2 (.inl (MemPlace.mem_row.2 ⟨0, by omega, by simp⟩))), fun j hj => ?_⟩
    rw [hlen] at hj
    have e : jbsAt ((List.range len).map f) j = f j := by simp [jbsAt, hj]
    have k0 := hf j (by omega) 0 (by omega)
    have k1 := hf j (by omega) 1 (by omega)
    rw [add_plain] at k0 k1
    rw [e]
    exact ⟨k0, by rw [Nat.add_assoc]; exact k1⟩

theorem read_again_jbss {H : Type} {enc : TypeId × Value → H} {W W' : World} {v : Value} {d : DataW H} {p : List MemPlace} (h : DataW.Trod enc Try.prog W 0 (fun _ => true) true 25 v d p) (hlt : ∀ x ∈ p, x.block < W.heap.size) (hb : Below W.heap.size W W') :
    DataW.Trod enc Try.prog W' 0 (fun b => decide (b < W.heap.size)) true 25 v d p :=
  Below.trod row_laidOut (by kernel_rfl) (of_decide_eq_true (by kernel_rfl)) h hb hlt

/-- szJobS: what is left of a number -/
theorem szJobS_yes (A : Option Addr) (c n : Nat) (k : Int) (w : World) (h : (n : Int) ≤ k) (hk : k ≤ 1048576) :
    Calls Try.prog 13 #[.slice A n c, .int .i64 k] w fun e w' => e = .returned (.int .i64 (k - (n : Int))) ∧ w = w' := by
  go_enter Try.func13, Try.ntmps13
  go_wp2
  go_ret
  exact ⟨rfl, rfl⟩
theorem szJobS_no (A : Option Addr) (c n : Nat) (k : Int) (w : World) (h : k < (n : Int)) (hk : 0 ≤ k) (hn : n ≤ c) (hc : c ≤ maxLen) :
    Calls Try.prog 13 #[.slice A n c, .int .i64 k] w fun e w' => e = .returned (.int .i64 (-1)) ∧ w = w' := by
  unfold maxLen at hc
  go_enter Try.func13, Try.ntmps13
  go_wp2
  go_ret
  exact ⟨rfl, rfl⟩

end Go.Proofs.Ytbcgglkgdjafiaa
