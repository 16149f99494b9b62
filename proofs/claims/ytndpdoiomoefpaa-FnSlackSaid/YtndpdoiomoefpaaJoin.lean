/-
  FloorJoin of both.
-/
import Derived.Test.YtndpdoiomoefpaaConcat
import Derived.Deep.RegionLaw
import Derived.Deep.AppendLies
namespace Go.Proofs.Ytndpdoiomoefpaa
open Go.RowKit

theorem implFloorValid_q (A : Option Addr) (c : Nat) (zs : List Int) (w : World) (ha : Arg w A c zs) {b : Bool} (hb : validB zs = b) :
    Calls Try.prog 77 #[.slice A zs.length c] w (RetQ (.bool b) w) := (implFloorValid_c A c zs w ha).mono fun _ _ h => ⟨by rw [h.1, hb], 0, h.2.symm⟩
theorem specFloorValid_q (A : Option Addr) (c : Nat) (zs : List Int) (w : World) (ha : Arg w A c zs) {b : Bool} (hb : validB zs = b) :
    Calls Try.prog 85 #[.slice A zs.length c] w (RetQ (.bool b) w) := (specFloorValid_c A c zs w ha).mono fun _ _ h => ⟨by rw [h.1, hb], 0, h.2.symm⟩
theorem Arg.drewN {w : World} {A : Option Addr} {c : Nat} {zs : List Int} (h : Arg w A c zs) (n : Nat) : Arg (w.drewN n) A c zs := h

theorem implFloorValid_k (A : Option Addr) (c : Nat) (zs : List Int) (w : World) (n : Nat) (ha : Arg w A c zs) {b : Bool} (hb : validB zs = b) :
    Calls Try.prog 77 #[.slice A zs.length c] (w.drewN n) fun e w'' => e = .returned (.bool b) ∧ ∃ m, w'' = w.drewN m := Calls.quiet_of (implFloorValid_q A c zs _ (ha.drewN n) hb)
theorem specFloorValid_k (A : Option Addr) (c : Nat) (zs : List Int) (w : World) (n : Nat) (ha : Arg w A c zs) {b : Bool} (hb : validB zs = b) :
    Calls Try.prog 85 #[.slice A zs.length c] (w.drewN n) fun e w'' => e = .returned (.bool b) ∧ ∃ m, w'' = w.drewN m := Calls.quiet_of (specFloorValid_q A c zs _ (ha.drewN n) hb)

/-- the depths at the seam are the same -/
def seamB (xs ys : List Int) : Bool := decide (xs[xs.length - 1]?.getD 0 = ys[0]?.getD 0)
def joinB (xs ys : List Int) : Bool := validB xs && validB ys && seamB xs ys && validB (xs ++ ys.tail)
/-- what FloorJoin hands back -/
def floorJoinL (xs ys : List Int) : List Int := if joinB xs ys then xs ++ ys.tail else []
theorem tail_at (ys : List Int) (j : Nat) : ys.tail[j]?.getD 0 = ys[1 + j]?.getD 0 := by
  cases ys with
  | nil => simp
  | cons y r => simp [Nat.add_comm 1 j]
theorem Arg.tail {w : World} {b off c : Nat} {ys : List Int} (h : Arg w (some ⟨b, off, none⟩) c ys) (hn : 2 ≤ ys.length) : Arg w (some ⟨b, off + 1, none⟩) (c - 1) ys.tail := by
  obtain ⟨b', off', e, h3, h4, hc⟩ := h.rd (by omega)
  injection e with e
  injection e with e1 e2 _
  subst e1; subst e2
  have hl := h.len
  have hcl := h.2.1
  have hcm := h.2.2.1
  refine ⟨by rw [List.length_tail]; omega, by rw [List.length_tail]; omega, by omega, fun _ => ⟨b, off + 1, rfl, h3, h4, fun j hj => ?_⟩⟩
  rw [List.length_tail] at hj
  rw [tail_at, Nat.add_assoc]
  exact hc (1 + j) (by omega)

set_option maxRecDepth 100000 in
set_option maxHeartbeats 2000000 in
theorem implFloorJoin_b (A : Option Addr) (c : Nat) (xs : List Int) (B : Option Addr) (d : Nat) (ys : List Int) (w : World) (ha : Arg w A c xs) (hb : Arg w B d ys) :
    Calls Try.prog 25 #[.slice A xs.length c, .slice B ys.length d] w (RetS 3 (fun v => .tuple #[v, .bool (joinB xs ys)]) (floorJoinL xs ys) w) := by
  have hl := ha.len
  have hl2 := hb.len
  cases hv : validB xs
  · have Hj := Lib.hid (show joinB xs ys = false by unfold joinB; rw [hv]; rfl)
    have Hh := Lib.hid (show floorJoinL xs ys = [] by unfold floorJoinL; rw [Hj.out]; rfl)
    have Hv := Lib.hid hv
    have Ha := Lib.hid ha
    clear hv ha hb
    go_enter Try.func25, Try.ntmps25
    go_wp2
    go_quiet ((go_at_call 77; exact implFloorValid_k A c xs _ _ Ha.out Hv.out))
    go_wp2
    go_ret2
    rw [Hj.out, Hh.out]
    exact RetS.nil (f := fun v => .tuple #[v, .bool false]) (below_drewN (Below.refl _ _) _)
  · have Hv := Lib.hid hv
    have Ha := Lib.hid ha
    have Hb := Lib.hid hb
    cases hv2 : validB ys
    · have Hj := Lib.hid (show joinB xs ys = false by unfold joinB; rw [hv, hv2]; rfl)
      have Hh := Lib.hid (show floorJoinL xs ys = [] by unfold floorJoinL; rw [Hj.out]; rfl)
      have Hv2 := Lib.hid hv2
      clear hv hv2 ha hb
      go_enter Try.func25, Try.ntmps25
      go_wp2
      go_quiet ((go_at_call 77; first | (with_reducible exact implFloorValid_k A c xs _ _ Ha.out Hv.out) | (with_reducible exact implFloorValid_k B d ys _ _ Hb.out Hv2.out)))
      go_wp2
      go_ret2
      rw [Hj.out, Hh.out]
      exact RetS.nil (f := fun v => .tuple #[v, .bool false]) (below_drewN (Below.refl _ _) _)
    · have Hv2 := Lib.hid hv2
      have hn1 := (validB_true hv).1
      have hn2 := (validB_true hv2).1
      have h16 := (validB_true hv).2.1
      have h162 := (validB_true hv2).2.1
      obtain ⟨b1, o1, rfl, _, hb1, hc1⟩ := ha.rd (by omega)
      obtain ⟨b2, o2, rfl, _, hb2, hc2⟩ := hb.rd (by omega)
      have hca := hc1 (xs.length - 1) (by omega)
      have hcb := hc2 0 (by omega)
      rw [Nat.add_zero] at hcb
      obtain ⟨x, hx⟩ : ∃ x, xs[xs.length - 1]?.getD 0 = x := ⟨_, rfl⟩
      obtain ⟨y, hy⟩ : ∃ y, ys[0]?.getD 0 = y := ⟨_, rfl⟩
      rw [hx] at hca
      rw [hy] at hcb
      have Hx := Lib.hid hx
      have Hy := Lib.hid hy
      have hcl2 := hb.2.1
      have hcm2 := hb.2.2.1
      unfold maxLen at hcm2
      have q1 : IntKind.i64.wrap ((xs.length : Int) - 1) = (xs.length : Int) - 1 := IntWalk.i64_in _ (by omega)
      have q2 : (0 : Int) ≤ (xs.length : Int) - 1 := by omega
      have q3 : ((xs.length : Int) - 1).toNat = xs.length - 1 := by omega
      have q4 : (xs.length : Int) - 1 < (xs.length : Int) := by omega
      have q5 : (0 : Int) < (ys.length : Int) := by omega
      by_cases hxy : x = y
      · have hb9 : (x != y) = false := by simp [hxy]
        have Hs := Lib.hid (show seamB xs ys = true by unfold seamB; rw [hx, hy]; simpa using hxy)
        have Htl := Lib.hid (hb.tail hn2)
        clear hxy hv hv2 ha hb hx hy hc1 hc2
        go_enter Try.func25, Try.ntmps25
        go_wp2
        go_quiet ((go_at_call 77; first | (with_reducible exact implFloorValid_k _ c xs _ _ Ha.out Hv.out) | (with_reducible exact implFloorValid_k _ d ys _ _ Hb.out Hv2.out)))
        clear q1 q2 q3 q4
        go_wp2_with fail
        obtain ⟨WL, hWL⟩ : ∃ WL, (w.drewN nq).alloc (.cells #[.slice (some ⟨b1, o1, none⟩) xs.length c, .slice (some ⟨b2, o2 + 1, none⟩) (ys.length - 1) (d - 1)] 23) = WL := ⟨_, rfl⟩
        have hblk : WL.heap[w.heap.size]? = some (.cells #[.slice (some ⟨b1, o1, none⟩) xs.length c, .slice (some ⟨b2, o2 + 1, none⟩) (ys.length - 1) (d - 1)] 23 (0, 0)) := by rw [← hWL]; exact heap_alloc_new (w.drewN nq) _
        have hBL : Below w.heap.size w WL := by rw [← hWL]; exact (below_drewN (Below.refl _ _) nq).alloc (Nat.le_refl _) _
        have hsz : w.heap.size < WL.heap.size := by rw [← hWL]; simp
        rw [hWL]
        clear hWL
        refine (concat_c w.heap.size b1 o1 c b2 (o2 + 1) (d - 1) xs ys.tail WL (cell_of_row _ _ 0 _ _ _ hblk) (by rw [List.length_tail]; exact cell_of_row _ _ 1 _ _ _ hblk) hsz (Ha.out.go hBL) (Htl.out.go hBL) (by omega) (by rw [List.length_tail]; omega) (by rw [List.length_tail]; omega)).mono ?_
        rintro e w1 ⟨B3, d3, rfl, ra, ro, rb⟩
        dsimp only [id]
        obtain ⟨js, hjs⟩ : ∃ js, xs ++ ys.tail = js := ⟨_, rfl⟩
        rw [hjs] at ra ro ⊢
        have Hjs := Lib.hid hjs
        clear hjs
        have Ra := Lib.hid ra
        have Ro := Lib.hid ro
        have Rb := Lib.hid (below_step hBL rb)
        have hlj := ra.len
        clear ra
        cases hvj : validB js
        · have Hj := Lib.hid (show joinB xs ys = false by unfold joinB; rw [Hjs.out, hvj]; simp)
          have Hh := Lib.hid (show floorJoinL xs ys = [] by unfold floorJoinL; rw [Hj.out]; rfl)
          have Hvj := Lib.hid hvj
          clear hvj ro rb
          go_wp2_with fail
          refine (implFloorValid_c B3 d3 js _ Ra.out).mono ?_
          rintro e w' ⟨rfl, rfl⟩
          rw [Hvj.out]
          go_wp2
          go_ret2
          rw [Hj.out, Hh.out]
          exact RetS.nil (f := fun v => .tuple #[v, .bool false]) Rb.out
        · have Hj := Lib.hid (show joinB xs ys = true by unfold joinB; rw [Hv.out, Hv2.out, Hs.out, Hjs.out, hvj]; rfl)
          have Hh := Lib.hid (show floorJoinL xs ys = js by unfold floorJoinL; rw [Hj.out, Hjs.out]; rfl)
          have Hvj := Lib.hid hvj
          have Ro2 := Lib.hid (Ro.out.more (lo' := w.heap.size) (Nat.le_of_lt hsz) (Nat.le_refl _))
          clear hvj ro rb
          go_wp2_with fail
          refine (implFloorValid_c B3 d3 js _ Ra.out).mono ?_
          rintro e w' ⟨rfl, rfl⟩
          rw [Hvj.out]
          go_wp2
          go_ret2
          rw [Hj.out, Hh.out]
          exact ⟨B3, d3, rfl, Ra.out, Ro2.out, Rb.out⟩
      · have hb9 : (x != y) = true := by simp [hxy]
        have Hs := Lib.hid (show seamB xs ys = false by unfold seamB; rw [hx, hy]; simpa using hxy)
        have Hj := Lib.hid (show joinB xs ys = false by unfold joinB; rw [hv, hv2, Hs.out]; rfl)
        have Hh := Lib.hid (show floorJoinL xs ys = [] by unfold floorJoinL; rw [Hj.out]; rfl)
        clear hxy hv hv2 ha hb hx hy hc1 hc2
        go_enter Try.func25, Try.ntmps25
        go_wp2
        go_quiet ((go_at_call 77; first | (with_reducible exact implFloorValid_k _ c xs _ _ Ha.out Hv.out) | (with_reducible exact implFloorValid_k _ d ys _ _ Hb.out Hv2.out)))
        clear q1 q2 q3 q4
        go_wp2
        go_ret2
        rw [Hj.out, Hh.out]
        exact RetS.nil (f := fun v => .tuple #[v, .bool false]) (below_drewN (Below.refl _ _) _)

set_option maxRecDepth 100000 in
set_option maxHeartbeats 2000000 in
theorem specFloorJoin_b (A : Option Addr) (c : Nat) (xs : List Int) (B : Option Addr) (d : Nat) (ys : List Int) (w : World) (ha : Arg w A c xs) (hb : Arg w B d ys) :
    Calls Try.prog 26 #[.slice A xs.length c, .slice B ys.length d] w (RetS 3 (fun v => .tuple #[v, .bool (joinB xs ys)]) (floorJoinL xs ys) w) := by
  obtain ⟨i0, hi, hz0, hz1, hz2⟩ := info_parts int_info
  have hl := ha.len
  have hl2 := hb.len
  cases hv : validB xs
  · have Hj := Lib.hid (show joinB xs ys = false by unfold joinB; rw [hv]; rfl)
    have Hh := Lib.hid (show floorJoinL xs ys = [] by unfold floorJoinL; rw [Hj.out]; rfl)
    have Hv := Lib.hid hv
    have Ha := Lib.hid ha
    clear hv ha hb
    go_enter Try.func26, Try.ntmps26
    go_wp2
    go_quiet ((go_at_call 85; exact specFloorValid_k A c xs _ _ Ha.out Hv.out))
    go_wp2
    go_ret2
    rw [Hj.out, Hh.out]
    exact RetS.mk (f := fun v => .tuple #[v, .bool false]) (by simp) (World.ownsRow_made (w.drewN nq) #[] 0 (Nat.le_refl _) (by simp) rfl) ((below_drewN (Below.refl _ _) _).alloc (Nat.le_refl _) _)
  · have Hv := Lib.hid hv
    have Ha := Lib.hid ha
    have Hb := Lib.hid hb
    cases hv2 : validB ys
    · have Hj := Lib.hid (show joinB xs ys = false by unfold joinB; rw [hv, hv2]; rfl)
      have Hh := Lib.hid (show floorJoinL xs ys = [] by unfold floorJoinL; rw [Hj.out]; rfl)
      have Hv2 := Lib.hid hv2
      clear hv hv2 ha hb
      go_enter Try.func26, Try.ntmps26
      go_wp2
      go_quiet ((go_at_call 85; first | (with_reducible exact specFloorValid_k A c xs _ _ Ha.out Hv.out) | (with_reducible exact specFloorValid_k B d ys _ _ Hb.out Hv2.out)))
      go_wp2
      go_ret2
      rw [Hj.out, Hh.out]
      exact RetS.mk (f := fun v => .tuple #[v, .bool false]) (by simp) (World.ownsRow_made (w.drewN nq) #[] 0 (Nat.le_refl _) (by simp) rfl) ((below_drewN (Below.refl _ _) _).alloc (Nat.le_refl _) _)
    · have Hv2 := Lib.hid hv2
      have hn1 := (validB_true hv).1
      have hn2 := (validB_true hv2).1
      have h16 := (validB_true hv).2.1
      have h162 := (validB_true hv2).2.1
      obtain ⟨b1, o1, rfl, _, hb1, hc1⟩ := ha.rd (by omega)
      obtain ⟨b2, o2, rfl, _, hb2, hc2⟩ := hb.rd (by omega)
      have hca := hc1 (xs.length - 1) (by omega)
      have hcb := hc2 0 (by omega)
      rw [Nat.add_zero] at hcb
      obtain ⟨x, hx⟩ : ∃ x, xs[xs.length - 1]?.getD 0 = x := ⟨_, rfl⟩
      obtain ⟨y, hy⟩ : ∃ y, ys[0]?.getD 0 = y := ⟨_, rfl⟩
      rw [hx] at hca
      rw [hy] at hcb
      have Hx := Lib.hid hx
      have Hy := Lib.hid hy
      have Hc1 := Lib.hid hc1
      have HcT : Hid (∀ j, j < ys.tail.length → w.cell? ⟨b2, o2 + 1 + j, none⟩ = some (.int .i64 (ys.tail[j]?.getD 0))) := fun j hj => by
        rw [List.length_tail] at hj
        rw [tail_at, Nat.add_assoc]
        exact hc2 (1 + j) (by omega)
      have Hx1 := Lib.hid (ints_one xs)
      have Hy1 := Lib.hid (ints_one ys.tail)
      have Hlx : Hid ((xs.map (Value.int .i64)).length = xs.length * 1) := by rw [List.length_map, Nat.mul_one]; rfl
      have Hly : Hid ((ys.tail.map (Value.int .i64)).length = (ys.length - 1) * 1) := by rw [List.length_map, List.length_tail, Nat.mul_one]; rfl
      have hcl2 := hb.2.1
      have hcm2 := hb.2.2.1
      unfold maxLen at hcm2
      have q1 : IntKind.i64.wrap ((xs.length : Int) - 1) = (xs.length : Int) - 1 := IntWalk.i64_in _ (by omega)
      have q2 : (0 : Int) ≤ (xs.length : Int) - 1 := by omega
      have q3 : ((xs.length : Int) - 1).toNat = xs.length - 1 := by omega
      have q4 : (xs.length : Int) - 1 < (xs.length : Int) := by omega
      have q5 : (0 : Int) < (ys.length : Int) := by omega
      by_cases hxy : x = y
      · have hb9 : (x != y) = false := by simp [hxy]
        have Hs := Lib.hid (show seamB xs ys = true by unfold seamB; rw [hx, hy]; simpa using hxy)
        have Htl := Lib.hid (hb.tail hn2)
        clear hxy hv hv2 ha hb hx hy hc1 hc2
        go_enter Try.func26, Try.ntmps26
        go_wp2
        go_quiet ((go_at_call 85; first | (with_reducible exact specFloorValid_k _ c xs _ _ Ha.out Hv.out) | (with_reducible exact specFloorValid_k _ d ys _ _ Hb.out Hv2.out)))
        clear q1 q2 q3 q4
        have hown0 : ((w.drewN (nq + 1)).alloc (.cells #[] 3)).ownsRow w.heap.size 3 1 (.slice (some ⟨w.heap.size, 0, none⟩) 0 0) 0 [] := World.ownsRow_made (w.drewN (nq + 1)) #[] 0 (Nat.le_refl _) (by simp) rfl
        have hbb : Below w.heap.size w ((w.drewN (nq + 1)).alloc (.cells #[] 3)) := (below_drewN (Below.refl _ _) (nq + 1)).alloc (Nat.le_refl _) _
        have HsX := Lib.hid (src_cells (w := (w.drewN (nq + 1)).alloc (.cells #[] 3)) (fun j hj => (hbb.cell (p := ⟨b1, o1 + j, none⟩) hb1).trans (Hc1.out j hj)))
        have Hbb := Lib.hid hbb
        have Hown0 := Lib.hid hown0
        clear hown0 hbb
        go_wp2
        have g8 : (1 : Int) ≤ (ys.length : Int) := by omega
        have g9 : ¬ (d = 1) := by omega
        go_region_law (first
          | (refine step_append_lies _ rfl (.tmp 28) (.tmp 29) 23 rfl w.heap.size 3 i0 (.int .i64 0) 1 8 Try.underlying23 hi hz0 hz1 hz2 rfl (by decide) (.slice (some ⟨w.heap.size, 0, none⟩) 0 0) 0 [] (by simp [Act.eval]) Hown0.out ⟨b1, o1, none⟩ xs.length c (xs.map (Value.int .i64)) (by simp [Act.eval]) Hlx.out HsX.out Hx1.out (by omega) (by unfold maxLen; omega) (by omega) (by simp) _ rfl ?_; intro g3 cap3 w3 hown3 hg3 _ _; have Hb3 := Lib.hid (Hbb.out.grown hg3 (by simp) (fun r e => by simp [Value.ownBlock] at e; omega)); have HsY := Lib.hid (src_cells (w := w3) (fun j hj => (Hb3.out.cell (p := ⟨b2, o2 + 1 + j, none⟩) hb2).trans (HcT.out j hj))))
          | (refine step_append_lies _ rfl (.tmp 30) (.tmp 32) 23 rfl w.heap.size 3 i0 (.int .i64 0) 1 8 Try.underlying23 hi hz0 hz1 hz2 rfl (by decide) (.slice (some ⟨g3, 0, none⟩) (0 + xs.length) cap3) (0 + xs.length) ([] ++ xs.map (Value.int .i64)) (by simp [Act.eval]) hown3 ⟨b2, o2 + 1, none⟩ (ys.length - 1) (d - 1) (ys.tail.map (Value.int .i64)) (by simp [Act.eval]) Hly.out HsY.out Hy1.out (by omega) (by unfold maxLen; omega) (by omega) Hb3.out.size _ rfl ?_; intro g4 cap4 w4 hown4 hg4 _ _))
        obtain ⟨js, hjs⟩ : ∃ js, xs ++ ys.tail = js := ⟨_, rfl⟩
        have hjl : xs.length + (ys.length - 1) = js.length := by rw [← hjs, List.length_append, List.length_tail]
        rw [Nat.zero_add, List.nil_append, ← List.map_append, hjs, hjl] at hown4
        have hb4 : Below w.heap.size w w4 := Hb3.out.grown hg4 Hb3.out.size (fun r e => (hown3.lt r e).1)
        have Hown4 := Lib.hid hown4
        have Hb4 := Lib.hid hb4
        have Ra := Lib.hid ((Ow.of_own (zs := js) hown4).arg (by omega) (Nat.le_refl _))
        have Hjs := Lib.hid hjs
        have Hjl := Lib.hid hjl
        clear hown4 hb4 hg4 hown3 hg3 hjs hjl
        cases hvj : validB js
        · have Hj := Lib.hid (show joinB xs ys = false by unfold joinB; rw [Hjs.out, hvj]; simp)
          have Hh := Lib.hid (show floorJoinL xs ys = [] by unfold floorJoinL; rw [Hj.out]; rfl)
          have Hvj := Lib.hid hvj
          clear hvj
          go_wp2_with fail
          rw [Hjl.out]
          refine (specFloorValid_c _ cap4 js _ Ra.out).mono ?_
          rintro e w' ⟨rfl, rfl⟩
          rw [Hvj.out]
          go_wp2
          go_ret2
          rw [Hj.out, Hh.out]
          exact RetS.mk (f := fun v => .tuple #[v, .bool false]) (by simp) (OwnsRow.more (World.ownsRow_made w4 #[] 0 (Nat.le_refl _) (by simp) rfl) Hb4.out.size) (Hb4.out.alloc Hb4.out.size _)
        · have Hj := Lib.hid (show joinB xs ys = true by unfold joinB; rw [Hv.out, Hv2.out, Hs.out, Hjs.out, hvj]; rfl)
          have Hh := Lib.hid (show floorJoinL xs ys = js by unfold floorJoinL; rw [Hj.out, Hjs.out]; rfl)
          have Hvj := Lib.hid hvj
          clear hvj
          go_wp2_with fail
          rw [Hjl.out]
          refine (specFloorValid_c _ cap4 js _ Ra.out).mono ?_
          rintro e w' ⟨rfl, rfl⟩
          rw [Hvj.out]
          go_wp2
          go_ret2
          rw [Hj.out, Hh.out]
          exact RetS.mk (f := fun v => .tuple #[v, .bool true]) (by have := Hjl.out; omega) Hown4.out Hb4.out
      · have hb9 : (x != y) = true := by simp [hxy]
        have Hs := Lib.hid (show seamB xs ys = false by unfold seamB; rw [hx, hy]; simpa using hxy)
        have Hj := Lib.hid (show joinB xs ys = false by unfold joinB; rw [hv, hv2, Hs.out]; rfl)
        have Hh := Lib.hid (show floorJoinL xs ys = [] by unfold floorJoinL; rw [Hj.out]; rfl)
        clear hxy hv hv2 ha hb hx hy hc1 hc2
        go_enter Try.func26, Try.ntmps26
        go_wp2
        go_quiet ((go_at_call 85; first | (with_reducible exact specFloorValid_k _ c xs _ _ Ha.out Hv.out) | (with_reducible exact specFloorValid_k _ d ys _ _ Hb.out Hv2.out)))
        clear q1 q2 q3 q4
        go_wp2
        go_ret2
        rw [Hj.out, Hh.out]
        exact RetS.mk (f := fun v => .tuple #[v, .bool false]) (by simp) (World.ownsRow_made (w.drewN nq) #[] 0 (Nat.le_refl _) (by simp) rfl) ((below_drewN (Below.refl _ _) _).alloc (Nat.le_refl _) _)

end Go.Proofs.Ytndpdoiomoefpaa
