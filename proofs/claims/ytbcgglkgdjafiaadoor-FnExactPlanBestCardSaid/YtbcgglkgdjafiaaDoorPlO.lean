/-
  offer of the program, of a plan in its own block.
-/
import Derived.Test.YtbcgglkgdjafiaaDoorChpK
import Derived.Test.YtbcgglkgdjafiaaDoorPlX
namespace Go.Proofs.YtbcgglkgdjafiaaDoor
open Go.RowKit

set_option maxRecDepth 100000 in
set_option maxHeartbeats 1000000 in
theorem offerP_c (c : List Int → Int) (lo s rb : Nat) (d : List (List Int)) (r : List Int) (W : World) (h : BestAt c lo s rb d W) (hrow : PlAt W rb r) (hs : s < rb) (hlo : lo ≤ rb) (hl : r.length ≤ 10) :
    Calls Tryd.prog 64 #[.pointer (some ⟨s, 0, none⟩), .slice (some ⟨rb, 0, none⟩) r.length r.length, .int .i64 (c r)] W
      fun e W' => (∃ v, e = .returned v) ∧ BestAt c lo s rb (d ++ [r]) W' ∧ PlAt W' rb r ∧ KeepBut (fun x => x = s) W W' := by
  obtain ⟨sv, cost, fd, hch, hkb⟩ := h
  have c1 := hch.c1
  have c2 := hch.c2
  have Hch := Lib.hid hch
  have Hkb := Lib.hid hkb
  have Hrow := Lib.hid hrow
  clear hch hkb hrow
  have key : (fd = true ∧ ¬ c r < cost) ∨ (fd = false ∨ (fd = true ∧ c r < cost)) := by
    cases fd
    · exact .inr (.inl rfl)
    · by_cases hc : c r < cost
      · exact .inr (.inr ⟨rfl, hc⟩)
      · exact .inl ⟨rfl, hc⟩
  obtain ⟨cr, hcr⟩ : ∃ cr, c r = cr := ⟨_, rfl⟩
  rw [hcr] at key ⊢
  have Hcr := Lib.hid hcr
  clear hcr
  rcases key with ⟨rfl, hc⟩ | key
  · go_enter Tryd.func64, Tryd.ntmps64
    go_wp2
    go_end0
    exact ⟨⟨_, rfl⟩, ⟨sv, cost, true, Hch.out, Hkb.out.stay rfl (by rw [Hcr.out]; omega)⟩, Hrow.out, KeepBut.refl _ _⟩
  · have Harg := Lib.hid (Hrow.out.arg (by omega))
    have Hrlt := Lib.hid Hrow.out.lt
    rcases key with rfl | ⟨rfl, hc⟩
    all_goals
      go_enter Tryd.func64, Tryd.ntmps64
      go_wp2_with fail
      refine (cloneI_c rb 0 r.length r W Harg.out).mono ?_
      rintro e w1 ⟨A1, d1, rfl, ra1, ro1, rb1⟩
      dsimp only [id]
      have hch1 := Hch.out.keep (KeepBut.of_below (p := fun _ => False) rb1) (by simp)
      have e0 := hch1.c0
      have e1 := hch1.c1
      have e2 := hch1.c2
      have f0 := hch1.frozen 0
      have f1 := hch1.frozen 1
      have f2 := hch1.frozen 2
      have Hch1 := Lib.hid hch1
      have Hro1 := Lib.hid ro1
      have Hrb1 := Lib.hid rb1
      clear hch1 ro1 rb1 ra1
      go_wp2
      refine bodyPost_end (results_none rfl _ _ _) rfl ?_
      obtain ⟨hc3, hk3⟩ := Hch1.out.set (.slice A1 r.length d1) cr true
      have hk13 := (KeepBut.of_below (p := fun x => x = s) Hrb1.out).trans hk3
      have hrng := Hro1.out.range
      have hlt := Hch.out.lt
      have hrl := Hrlt.out
      have hg : ∀ g, (Value.slice A1 r.length d1).ownBlock = some g → g ≠ s ∧ g ≠ rb := fun g e => by
        have h1 := hrng g e
        exact ⟨by omega, by omega⟩
      have ho3 := (Hro1.out.more (lo' := lo) (hi' := w1.heap.size) (by omega) (Nat.le_refl _)).but hk3 (Nat.le_refl _) (fun g e => (hg g e).1)
      have hnew := Hkb.out.new (by first | exact Or.inl rfl | exact Or.inr (by rw [Hcr.out]; exact hc)) hl ho3 hg
      rw [Hcr.out] at hnew
      exact ⟨⟨_, rfl⟩, ⟨_, _, _, hc3, hnew⟩, Hrow.out.keep hk13 (by omega), hk13⟩

theorem keep_put (W : World) (l : Nat) (o : Obj) : KeepBut (fun x => x = l) W (W.putObj l o) :=
  ⟨rfl, rfl, rfl, by simp [World.putObj], fun k _ hk => World.putObj_heap_other (fun e => hk (by omega))⟩
theorem KeptB.low {c : List Int → Int} {lo s rb : Nat} {d : List (List Int)} {W W' : World} {sv : Value} {cost : Int} {fd : Bool} {p : Nat → Prop} (h : KeptB c lo s rb d W sv cost fd) (hk : KeepBut p W W') (hp : ∀ x, p x → x < lo) : KeptB c lo s rb d W' sv cost fd := by
  unfold KeptB at *
  cases hb : bst c d with
  | none => rw [hb] at h; exact h
  | some x =>
    rw [hb] at h
    obtain ⟨h1, h2, h3, h4, h5⟩ := h
    exact ⟨h1, h2, h3, h4.but hk (Nat.le_refl _) (fun g e hpg => by have h6 := h4.range g e; have := hp g hpg; omega), h5⟩
theorem BestAt.low {c : List Int → Int} {lo s rb : Nat} {d : List (List Int)} {W W' : World} {p : Nat → Prop} (h : BestAt c lo s rb d W) (hk : KeepBut p W W') (hp : ∀ x, p x → x < lo ∧ x ≠ s) : BestAt c lo s rb d W' := by
  obtain ⟨sv, cost, fd, h1, h2⟩ := h
  exact ⟨sv, cost, fd, h1.keep hk (fun h => (hp s h).2 rfl), h2.low hk (fun x hx => (hp x hx).1)⟩

end Go.Proofs.YtbcgglkgdjafiaaDoor
