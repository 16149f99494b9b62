/-
  The drawn nets: l92Two. (Written by a program of mine, gen7d.py.)
-/
import Derived.Test.YtnekjhpocfdpnaaNdA
import Derived.Deep.RegionHeld3
namespace Go.Proofs.Ytnekjhpocfdpnaa
open Go.RowKit

/-- A DRAWN NET WITH TWO STATIONS -/
def RetTwo (R : Nat) (A : Option Addr) (n c p : Nat) (w : World) (e : Ending) (w' : World) : Prop :=
  ∃ (m : Nat), ∃ B d zs, ∃ (f t : Int) (q : Nat), e = .returned (.tuple #[.int .i64 (m : Int), .slice B (zs : List Lin).length d, .int .i64 f, .int .i64 t]) ∧ 2 ≤ m ∧ m ≤ 5 ∧ zs.length ≤ 7 ∧ (0 ≤ f ∧ f < (m : Int)) ∧ (-1 ≤ t ∧ t ≤ (m : Int)) ∧ OwL 31 w.heap.size w'.heap.size w' (.slice B zs.length d) zs ∧ Reader w' R A n c q ∧ q ≤ p + 110 ∧ w.grownBy w' (some R)
theorem idx_three {W : World} {b i : Nat} {f : Int} {m : Nat} (h : W.cell? ⟨b, i, none⟩ = (#[.int .i64 f, .int .i64 (-1), .int .i64 (m : Int)] : Array Value)[i]?) (hi : i < 3) (hf : 0 ≤ f ∧ f < (m : Int)) : ∃ y : Int, W.cell? ⟨b, i, none⟩ = some (.int .i64 y) ∧ -1 ≤ y ∧ y ≤ (m : Int) := by
  rcases (by omega : i = 0 ∨ i = 1 ∨ i = 2) with rfl | rfl | rfl
  · exact ⟨f, h, by omega, by omega⟩
  · exact ⟨-1, h, by omega, by omega⟩
  · exact ⟨m, h, by omega, by omega⟩

set_option maxRecDepth 100000 in
set_option maxHeartbeats 8000000 in
theorem l92Two_c (R : Nat) (A : Option Addr) (n c p : Nat) (w : World) (h : Reader w R A n c p) (hRw : R < w.heap.size) (hp : p ≤ 40000) :
    Calls Try.prog 33 #[.pointer (some ⟨R, 0, none⟩)] w (RetTwo R A n c p w) := by
  have H0 := Lib.hid h
  clear h
  go_enter Try.func33, Try.ntmps33
  go_wp2_with fail
  refine (l92Net_c R A n c p _ H0.out hRw (by omega)).mono ?_
  rintro e w1 ⟨m, B, d, zs, q, rfl, hm2, hm5, hzl, ho1, hr1, hq, hg1⟩
  have HO1 := Lib.hid ho1
  have HR1 := Lib.hid hr1
  have HG1 := Lib.hid hg1
  have hs1 := hg1.size
  clear ho1 hr1 hg1 H0
  have m1 : ((m : Int) == 0) = false := by rw [beq_eq_false_iff_ne]; omega
  have m2 : ¬ (m : Int) = 0 := by omega
  have m3 : ¬ m = 0 := by omega
  have q2 : IntKind.i64.wrap ((m : Int) - 1) = (m : Int) - 1 := IntWalk.i64_in _ (by omega)
  dsimp only
  go_wp2_with fail
  refine (pick_c R A n c q (m : Int) _ HR1.out (by omega) (by omega) (by omega)).mono ?_
  rintro e w2 ⟨f, rfl, f0, f1, hr2, hg2⟩
  have hs2 := hg2.size
  have HO2 := Lib.hid (HO1.out.kept hg2 (fun r e => by cases e; exact .inl hRw))
  have HR2 := Lib.hid hr2
  have HG2 := Lib.hid (grown_then HG1.out hg2)
  clear hr2 hg2 HO1 HR1 HG1
  go_wp2_with fail
  refine (pick_c R A n c (q + 1) 20 _ HR2.out (by omega) (by omega) (by omega)).mono ?_
  rintro e w4 ⟨k4, rfl, k40, k41, hr4, hg4⟩
  have hs4 := hg4.size
  have HO4 := Lib.hid (HO2.out.kept hg4 (fun r e => by cases e; exact .inl hRw))
  have H4 := Lib.hid hr4
  have HG4 := Lib.hid (grown_then HG2.out hg4)
  have HS4 := Lib.hid hs4
  clear hr4 hg4 HO2 HR2 HG2
  by_cases hk : k4 = 0
  · subst hk
    go_wp2
    refine wp_region_held_drew (S := (fun _ => True)) (by kernel_rfl) (trivial) (fun hHeld => ?_)
    refine wpAnyH_take (i := 0) (oi := { dst := some 20, op := _, type := _, pos := _, after := _, guard := _ }) (v := ?vi0) rfl (by kernel_rfl) (by kernel_rfl) (by kernel_rfl) (fun _ _ _ h => h) (Or.inl ⟨by kernel_rfl, ?yi0⟩) (by assumption) ?ri0
    case yi0 => intro w hSw; (try dsimp only at hSw); go_simp; try with_reducible rfl
    try simp only [Act.put, List.setIfInBounds_toArray, List.set_cons_zero, List.set_cons_succ]
    refine wpAnyH_take (i := 1) (oi := { dst := some 21, op := _, type := _, pos := _, after := _, guard := _ }) (v := ?vi1) rfl (by kernel_rfl) (by kernel_rfl) (by kernel_rfl) (fun _ _ _ h => h) (Or.inl ⟨by kernel_rfl, ?yi1⟩) (by assumption) ?ri1
    case yi1 => intro w hSw; (try dsimp only at hSw); go_simp; try with_reducible rfl
    try simp only [Act.put, List.setIfInBounds_toArray, List.set_cons_zero, List.set_cons_succ]
    refine wpAnyH_take (i := 2) (oi := { dst := some 22, op := _, type := _, pos := _, after := _, guard := _ }) (v := ?vi2) rfl (by kernel_rfl) (by kernel_rfl) (by kernel_rfl) (fun _ _ _ h => h) (Or.inl ⟨by kernel_rfl, ?yi2⟩) (by assumption) ?ri2
    case yi2 => intro w hSw; (try dsimp only at hSw); go_simp; try with_reducible rfl
    try simp only [Act.put, List.setIfInBounds_toArray, List.set_cons_zero, List.set_cons_succ]
    refine wpAnyH_take (i := 3) (oi := { dst := some 23, op := _, type := _, pos := _, after := _, guard := _ }) (v := ?vi3) rfl (by kernel_rfl) (by kernel_rfl) (by kernel_rfl) (fun _ _ _ h => h) (Or.inl ⟨by kernel_rfl, ?yi3⟩) (by assumption) ?ri3
    case yi3 => intro w hSw; (try dsimp only at hSw); go_simp; try with_reducible rfl
    try simp only [Act.put, List.setIfInBounds_toArray, List.set_cons_zero, List.set_cons_succ]
    refine wpAnyH_take (i := 4) (oi := { dst := some 24, op := _, type := _, pos := _, after := _, guard := _ }) (v := ?vi4) rfl (by kernel_rfl) (by kernel_rfl) (by kernel_rfl) (fun _ _ _ h => h) (Or.inl ⟨by kernel_rfl, ?yi4⟩) (by assumption) ?ri4
    case yi4 => intro w hSw; (try dsimp only at hSw); go_simp; try with_reducible rfl
    try simp only [Act.put, List.setIfInBounds_toArray, List.set_cons_zero, List.set_cons_succ]
    refine wpAnyH_take (i := 6) (oi := { dst := some 26, op := _, type := _, pos := _, after := _, guard := _ }) (v := ?vi6) rfl (by kernel_rfl) (by kernel_rfl) (by kernel_rfl) (fun _ _ _ h => h) (Or.inl ⟨by kernel_rfl, ?yi6⟩) (by assumption) ?ri6
    case yi6 => intro w hSw; (try dsimp only at hSw); go_simp; try with_reducible rfl
    try simp only [Act.put, List.setIfInBounds_toArray, List.set_cons_zero, List.set_cons_succ]
    refine wpAnyH_ready (rs := [5, 7]) (by kernel_rfl) (by simp) ?_
    refine AllReadyH.cons (o := { dst := some 25, op := _, type := _, pos := _, after := _, guard := _ }) rfl (fun K hK => ?_) (AllReadyH.cons (o := { dst := some 27, op := _, type := _, pos := _, after := _, guard := _ }) rfl (fun K hK => ?_) AllReadyH.nil)
    · skip
      go_simp
      refine hK.out _ _ (trivial) (fun hHeld2 => ?_)
      clear hK K
      try simp only [Act.put, List.setIfInBounds_toArray, List.set_cons_zero, List.set_cons_succ]
      refine wpAnyH_ready (rs := [7]) (by kernel_rfl) (by simp) ?_
      refine AllReadyH.cons (o := { dst := some 27, op := _, type := _, pos := _, after := _, guard := _ }) rfl (fun K hK => ?_) AllReadyH.nil
      go_simp
      refine (pick_c R A n c (q + 1 + 1) 3 _ (H4.out.kept (grown_drew (World.grownBy_alloc w4 (.cells #[.int .i64 f, .int .i64 (-1), .int .i64 (m : Int)] 3) none)) (by simp)) (by omega) (by omega) (by omega)).mono ?_
      rintro e w5 ⟨a5, rfl, a50, a51, hr5, hg5⟩
      obtain ⟨i5, rfl⟩ := Int.eq_ofNat_of_zero_le a50
      have hrow := (hg5.block w4.heap.size (by simp) (by simp; omega)).trans (heap_alloc_new w4.drew _)
      obtain ⟨y, hcy, hy1, hy2⟩ := idx_three (cell_of_row _ _ i5 _ _ _ hrow) (by omega) ⟨f0, f1⟩
      have hga := grown_drew (World.grownBy_alloc w4 (.cells #[.int .i64 f, .int .i64 (-1), .int .i64 (m : Int)] 3) (some R))
      have HRF := Lib.hid hr5
      have HGF := Lib.hid (grown_then HG4.out (grown_then hga hg5))
      have HOF := Lib.hid (HO4.out.kept (grown_then hga hg5) (fun r e => by cases e; exact .inl hRw))
      have HOs := Lib.hid (Nat.le_trans hga.size hg5.size)
      have g9 : (i5 : Int) < 3 := by omega
      clear hr5 hg5 hga hrow
      go_wp2_with fail
      refine hK.out _ _ (trivial) (fun hHeld2 => ?_)
      clear hK K
      try simp only [Act.put, List.setIfInBounds_toArray, List.set_cons_zero, List.set_cons_succ]
      refine wpAnyH_take (i := 8) (oi := { dst := some 28, op := _, type := _, pos := _, after := _, guard := _ }) (v := ?va8) rfl (by kernel_rfl) (by kernel_rfl) (by kernel_rfl) (fun _ _ _ h => h) (Or.inl ⟨by kernel_rfl, ?ya8⟩) (by assumption) ?ra8
      case ya8 => intro w hSw; (try dsimp only at hSw); go_simp; try with_reducible rfl
      try simp only [Act.put, List.setIfInBounds_toArray, List.set_cons_zero, List.set_cons_succ]
      refine wpAnyH_take (i := 10) (oi := { dst := some 2, op := _, type := _, pos := _, after := _, guard := _ }) (v := ?va10) rfl (by kernel_rfl) (by kernel_rfl) (by kernel_rfl) (fun _ _ _ h => h) (Or.inl ⟨by kernel_rfl, ?ya10⟩) (by assumption) ?ra10
      case ya10 => intro w hSw; (try dsimp only at hSw); go_simp; try with_reducible rfl
      try simp only [Act.put, List.setIfInBounds_toArray, List.set_cons_zero, List.set_cons_succ]
      refine wpAnyH_take (i := 11) (oi := { dst := some 3, op := _, type := _, pos := _, after := _, guard := _ }) (v := ?va11) rfl (by kernel_rfl) (by kernel_rfl) (by kernel_rfl) (fun _ _ _ h => h) (Or.inl ⟨by kernel_rfl, ?ya11⟩) (by assumption) ?ra11
      case ya11 => intro w hSw; (try dsimp only at hSw); go_simp; try with_reducible rfl
      try simp only [Act.put, List.setIfInBounds_toArray, List.set_cons_zero, List.set_cons_succ]
      refine wpAnyH_take (i := 12) (oi := { dst := some 4, op := _, type := _, pos := _, after := _, guard := _ }) (v := ?va12) rfl (by kernel_rfl) (by kernel_rfl) (by kernel_rfl) (fun _ _ _ h => h) (Or.inl ⟨by kernel_rfl, ?ya12⟩) (by assumption) ?ra12
      case ya12 => intro w hSw; (try dsimp only at hSw); go_simp; try with_reducible rfl
      try simp only [Act.put, List.setIfInBounds_toArray, List.set_cons_zero, List.set_cons_succ]
      refine wpAnyH_ready (rs := [9]) (by kernel_rfl) (by simp) ?_
      refine AllReadyH.cons (o := { dst := some 29, op := _, type := _, pos := _, after := _, guard := _ }) rfl (fun K hK => ?_) AllReadyH.nil
      go_simp
      refine hK.out _ _ (trivial) (fun hHeld2 => ?_)
      clear hK K
      try simp only [Act.put, List.setIfInBounds_toArray, List.set_cons_zero, List.set_cons_succ]
      refine wpAnyH_take (i := 13) (oi := { dst := some 5, op := _, type := _, pos := _, after := _, guard := _ }) (v := ?va13) rfl (by kernel_rfl) (by kernel_rfl) (by kernel_rfl) (fun _ _ _ h => h) (Or.inl ⟨by kernel_rfl, ?ya13⟩) (by assumption) ?ra13
      case ya13 => intro w hSw; (try dsimp only at hSw); go_simp; try with_reducible rfl
      try simp only [Act.put, List.setIfInBounds_toArray, List.set_cons_zero, List.set_cons_succ]
      refine wpAnyH_done (by kernel_rfl) ?_ _
      go_wp2
      refine bodyPost_ret (v := .tuple #[.int .i64 (m : Int), .slice B zs.length d, .int .i64 f, .int .i64 y]) (by simp [results, Try.results33, go_sem]) rfl ?_
      exact ⟨m, B, d, zs, f, y, _, rfl, hm2, hm5, hzl, ⟨f0, f1⟩, ⟨hy1, hy2⟩, HOF.out.more (Nat.le_refl _) (by have := HOs.out; omega), HRF.out, by omega, HGF.out⟩
    · skip
      go_simp
      refine (pick_c R A n c (q + 1 + 1) 3 _ (H4.out.kept (grown_drew (World.grownBy.refl w4 none)) (by simp)) (by omega) (by omega) (by omega)).mono ?_
      rintro e w5 ⟨a5, rfl, a50, a51, hr5, hg5⟩
      obtain ⟨i5, rfl⟩ := Int.eq_ofNat_of_zero_le a50
      have hgd := grown_drew (World.grownBy.refl w4 (some R))
      have HR5 := Lib.hid hr5
      have HG5 := Lib.hid (grown_then HG4.out (grown_then hgd hg5))
      have HO5 := Lib.hid (HO4.out.kept (grown_then hgd hg5) (fun r e => by cases e; exact .inl hRw))
      have HS5 := Lib.hid (Nat.le_trans hgd.size hg5.size)
      have g9 : (i5 : Int) < 3 := by omega
      clear hr5 hg5 hgd
      go_wp2_with fail
      refine hK.out _ _ (trivial) (fun hHeld2 => ?_)
      clear hK K
      try simp only [Act.put, List.setIfInBounds_toArray, List.set_cons_zero, List.set_cons_succ]
      refine wpAnyH_take (i := 10) (oi := { dst := some 2, op := _, type := _, pos := _, after := _, guard := _ }) (v := ?vb10) rfl (by kernel_rfl) (by kernel_rfl) (by kernel_rfl) (fun _ _ _ h => h) (Or.inl ⟨by kernel_rfl, ?yb10⟩) (by assumption) ?rb10
      case yb10 => intro w hSw; (try dsimp only at hSw); go_simp; try with_reducible rfl
      try simp only [Act.put, List.setIfInBounds_toArray, List.set_cons_zero, List.set_cons_succ]
      refine wpAnyH_take (i := 11) (oi := { dst := some 3, op := _, type := _, pos := _, after := _, guard := _ }) (v := ?vb11) rfl (by kernel_rfl) (by kernel_rfl) (by kernel_rfl) (fun _ _ _ h => h) (Or.inl ⟨by kernel_rfl, ?yb11⟩) (by assumption) ?rb11
      case yb11 => intro w hSw; (try dsimp only at hSw); go_simp; try with_reducible rfl
      try simp only [Act.put, List.setIfInBounds_toArray, List.set_cons_zero, List.set_cons_succ]
      refine wpAnyH_take (i := 12) (oi := { dst := some 4, op := _, type := _, pos := _, after := _, guard := _ }) (v := ?vb12) rfl (by kernel_rfl) (by kernel_rfl) (by kernel_rfl) (fun _ _ _ h => h) (Or.inl ⟨by kernel_rfl, ?yb12⟩) (by assumption) ?rb12
      case yb12 => intro w hSw; (try dsimp only at hSw); go_simp; try with_reducible rfl
      try simp only [Act.put, List.setIfInBounds_toArray, List.set_cons_zero, List.set_cons_succ]
      refine wpAnyH_ready (rs := [5]) (by kernel_rfl) (by simp) ?_
      refine AllReadyH.cons (o := { dst := some 25, op := _, type := _, pos := _, after := _, guard := _ }) rfl (fun K hK => ?_) AllReadyH.nil
      obtain ⟨y, hcy, hy1, hy2⟩ := idx_three (cell_of_row _ _ i5 _ _ _ (heap_alloc_new w5 (.cells #[.int .i64 f, .int .i64 (-1), .int .i64 (m : Int)] 3))) (by omega) ⟨f0, f1⟩
      have HRF := Lib.hid (HR5.out.kept (World.grownBy_alloc w5 (.cells #[.int .i64 f, .int .i64 (-1), .int .i64 (m : Int)] 3) none) (by simp))
      have HGF := Lib.hid (grown_alloc HG5.out (.cells #[.int .i64 f, .int .i64 (-1), .int .i64 (m : Int)] 3))
      have HOF := Lib.hid (HO5.out.kept (World.grownBy_alloc w5 (.cells #[.int .i64 f, .int .i64 (-1), .int .i64 (m : Int)] 3) none) (by simp))
      have HOs : Hid (w4.heap.size ≤ (w5.alloc (.cells #[.int .i64 f, .int .i64 (-1), .int .i64 (m : Int)] 3)).heap.size) := Lib.hid (by have := HS5.out; simp; omega)
      go_simp
      refine hK.out _ _ (trivial) (fun hHeld2 => ?_)
      clear hK K
      try simp only [Act.put, List.setIfInBounds_toArray, List.set_cons_zero, List.set_cons_succ]
      refine wpAnyH_take (i := 8) (oi := { dst := some 28, op := _, type := _, pos := _, after := _, guard := _ }) (v := ?vb8) rfl (by kernel_rfl) (by kernel_rfl) (by kernel_rfl) (fun _ _ _ h => h) (Or.inl ⟨by kernel_rfl, ?yb8⟩) (by assumption) ?rb8
      case yb8 => intro w hSw; (try dsimp only at hSw); go_simp; try with_reducible rfl
      try simp only [Act.put, List.setIfInBounds_toArray, List.set_cons_zero, List.set_cons_succ]
      refine wpAnyH_ready (rs := [9]) (by kernel_rfl) (by simp) ?_
      refine AllReadyH.cons (o := { dst := some 29, op := _, type := _, pos := _, after := _, guard := _ }) rfl (fun K hK => ?_) AllReadyH.nil
      go_simp
      refine hK.out _ _ (trivial) (fun hHeld2 => ?_)
      clear hK K
      try simp only [Act.put, List.setIfInBounds_toArray, List.set_cons_zero, List.set_cons_succ]
      refine wpAnyH_take (i := 13) (oi := { dst := some 5, op := _, type := _, pos := _, after := _, guard := _ }) (v := ?vb13) rfl (by kernel_rfl) (by kernel_rfl) (by kernel_rfl) (fun _ _ _ h => h) (Or.inl ⟨by kernel_rfl, ?yb13⟩) (by assumption) ?rb13
      case yb13 => intro w hSw; (try dsimp only at hSw); go_simp; try with_reducible rfl
      try simp only [Act.put, List.setIfInBounds_toArray, List.set_cons_zero, List.set_cons_succ]
      refine wpAnyH_done (by kernel_rfl) ?_ _
      go_wp2
      refine bodyPost_ret (v := .tuple #[.int .i64 (m : Int), .slice B zs.length d, .int .i64 f, .int .i64 y]) (by simp [results, Try.results33, go_sem]) rfl ?_
      exact ⟨m, B, d, zs, f, y, _, rfl, hm2, hm5, hzl, ⟨f0, f1⟩, ⟨hy1, hy2⟩, HOF.out.more (Nat.le_refl _) (by have := HOs.out; omega), HRF.out, by omega, HGF.out⟩
  · have g2b : (k4 == 0) = false := by simpa using hk
    have q3 : IntKind.i64.wrap (f + 1) = f + 1 := IntWalk.i64_in _ (by omega)
    go_wp2
    · skip
      refine wp_region_held_drew (S := (fun _ => True)) (by kernel_rfl) (trivial) (fun hHeld => ?_)
      refine wpAnyH_take (i := 0) (oi := { dst := some 30, op := _, type := _, pos := _, after := _, guard := _ }) (v := ?vf0) rfl (by kernel_rfl) (by kernel_rfl) (by kernel_rfl) (fun _ _ _ h => h) (Or.inl ⟨by kernel_rfl, ?yf0⟩) (by assumption) ?rf0
      case yf0 => intro w hSw; (try dsimp only at hSw); go_simp; try with_reducible rfl
      try simp only [Act.put, List.setIfInBounds_toArray, List.set_cons_zero, List.set_cons_succ]
      refine wpAnyH_take (i := 1) (oi := { dst := some 31, op := _, type := _, pos := _, after := _, guard := _ }) (v := ?vf1) rfl (by kernel_rfl) (by kernel_rfl) (by kernel_rfl) (fun _ _ _ h => h) (Or.inl ⟨by kernel_rfl, ?yf1⟩) (by assumption) ?rf1
      case yf1 => intro w hSw; (try dsimp only at hSw); go_simp; try with_reducible rfl
      try simp only [Act.put, List.setIfInBounds_toArray, List.set_cons_zero, List.set_cons_succ]
      refine wpAnyH_take (i := 2) (oi := { dst := some 32, op := _, type := _, pos := _, after := _, guard := _ }) (v := ?vf2) rfl (by kernel_rfl) (by kernel_rfl) (by kernel_rfl) (fun _ _ _ h => h) (Or.inl ⟨by kernel_rfl, ?yf2⟩) (by assumption) ?rf2
      case yf2 => intro w hSw; (try dsimp only at hSw); go_simp; try with_reducible rfl
      try simp only [Act.put, List.setIfInBounds_toArray, List.set_cons_zero, List.set_cons_succ]
      refine wpAnyH_take (i := 3) (oi := { dst := some 33, op := _, type := _, pos := _, after := _, guard := _ }) (v := ?vf3) rfl (by kernel_rfl) (by kernel_rfl) (by kernel_rfl) (fun _ _ _ h => h) (Or.inl ⟨by kernel_rfl, ?yf3⟩) (by assumption) ?rf3
      case yf3 => intro w hSw; (try dsimp only at hSw); go_simp; try with_reducible rfl
      try simp only [Act.put, List.setIfInBounds_toArray, List.set_cons_zero, List.set_cons_succ]
      refine wpAnyH_take (i := 4) (oi := { dst := some 34, op := _, type := _, pos := _, after := _, guard := _ }) (v := ?vf4) rfl (by kernel_rfl) (by kernel_rfl) (by kernel_rfl) (fun _ _ _ h => h) (Or.inl ⟨by kernel_rfl, ?yf4⟩) (by assumption) ?rf4
      case yf4 => intro w hSw; (try dsimp only at hSw); go_simp; try with_reducible rfl
      try simp only [Act.put, List.setIfInBounds_toArray, List.set_cons_zero, List.set_cons_succ]
      refine wpAnyH_take (i := 5) (oi := { dst := some 35, op := _, type := _, pos := _, after := _, guard := _ }) (v := ?vf5) rfl (by kernel_rfl) (by kernel_rfl) (by kernel_rfl) (fun _ _ _ h => h) (Or.inl ⟨by kernel_rfl, ?yf5⟩) (by assumption) ?rf5
      case yf5 => intro w hSw; (try dsimp only at hSw); go_simp; try with_reducible rfl
      try simp only [Act.put, List.setIfInBounds_toArray, List.set_cons_zero, List.set_cons_succ]
      refine wpAnyH_take (i := 6) (oi := { dst := some 36, op := _, type := _, pos := _, after := _, guard := _ }) (v := ?vf6) rfl (by kernel_rfl) (by kernel_rfl) (by kernel_rfl) (fun _ _ _ h => h) (Or.inl ⟨by kernel_rfl, ?yf6⟩) (by assumption) ?rf6
      case yf6 => intro w hSw; (try dsimp only at hSw); go_simp; try with_reducible rfl
      try simp only [Act.put, List.setIfInBounds_toArray, List.set_cons_zero, List.set_cons_succ]
      refine wpAnyH_take (i := 7) (oi := { dst := some 37, op := _, type := _, pos := _, after := _, guard := _ }) (v := ?vf7) rfl (by kernel_rfl) (by kernel_rfl) (by kernel_rfl) (fun _ _ _ h => h) (Or.inl ⟨by kernel_rfl, ?yf7⟩) (by assumption) ?rf7
      case yf7 => intro w hSw; (try dsimp only at hSw); go_simp; try with_reducible rfl
      try simp only [Act.put, List.setIfInBounds_toArray, List.set_cons_zero, List.set_cons_succ]
      refine wpAnyH_take (i := 10) (oi := { dst := some 40, op := _, type := _, pos := _, after := _, guard := _ }) (v := ?vf8) rfl (by kernel_rfl) (by kernel_rfl) (by kernel_rfl) (fun _ _ _ h => h) (Or.inl ⟨by kernel_rfl, ?yf8⟩) (by assumption) ?rf8
      case yf8 => intro w hSw; (try dsimp only at hSw); go_simp; try with_reducible rfl
      try simp only [Act.put, List.setIfInBounds_toArray, List.set_cons_zero, List.set_cons_succ]
      refine wpAnyH_ready (rs := [8]) (by kernel_rfl) (by simp) ?_
      refine AllReadyH.cons (o := { dst := some 38, op := _, type := _, pos := _, after := _, guard := _ }) rfl (fun K hK => ?_) AllReadyH.nil
      go_simp
      refine (pick_c R A n c (q + 1 + 1) ((m : Int) - 1) _ (H4.out.kept (grown_drew (World.grownBy.refl w4 none)) (by simp)) (by omega) (by omega) (by omega)).mono ?_
      rintro e w5 ⟨a5, rfl, a50, a51, hr5, hg5⟩
      obtain ⟨rr, hrr, rr0, rr1⟩ := rem_pick (a := f + 1 + a5) (m := (m : Int)) (by omega) (by omega)
      have q4 : IntKind.i64.wrap (f + 1 + a5) = f + 1 + a5 := IntWalk.i64_in _ (by omega)
      have q5 : IntKind.i64.wrap rr = rr := IntWalk.i64_in _ (by omega)
      have HR5 := Lib.hid hr5
      have HG5 := Lib.hid (grown_then HG4.out (grown_then (grown_drew (World.grownBy.refl w4 _)) hg5))
      have HO5 := Lib.hid (HO4.out.kept (grown_then (grown_drew (World.grownBy.refl w4 _)) hg5) (fun r e => by cases e; exact .inl hRw))
      have HS5 := Lib.hid hg5.size
      clear hr5 hg5
      go_wp2_with fail
      refine hK.out _ _ (trivial) (fun hHeld2 => ?_)
      clear hK K
      try simp only [Act.put, List.setIfInBounds_toArray, List.set_cons_zero, List.set_cons_succ]
      refine wpAnyH_take (i := 9) (oi := { dst := some 39, op := _, type := _, pos := _, after := _, guard := _ }) (v := ?vf10) rfl (by kernel_rfl) (by kernel_rfl) (by kernel_rfl) (fun _ _ _ h => h) (Or.inl ⟨by kernel_rfl, ?yf10⟩) (by assumption) ?rf10
      case yf10 => intro w hSw; (try dsimp only at hSw); go_simp; try with_reducible rfl
      try simp only [Act.put, List.setIfInBounds_toArray, List.set_cons_zero, List.set_cons_succ]
      refine wpAnyH_take (i := 11) (oi := { dst := some 41, op := _, type := _, pos := _, after := _, guard := _ }) (v := ?vf11) rfl (by kernel_rfl) (by kernel_rfl) (by kernel_rfl) (fun _ _ _ h => h) (Or.inl ⟨by kernel_rfl, ?yf11⟩) (by assumption) ?rf11
      case yf11 => intro w hSw; (try dsimp only at hSw); go_simp; try with_reducible rfl
      try simp only [Act.put, List.setIfInBounds_toArray, List.set_cons_zero, List.set_cons_succ]
      refine wpAnyH_take (i := 12) (oi := { dst := some 2, op := _, type := _, pos := _, after := _, guard := _ }) (v := ?vf12) rfl (by kernel_rfl) (by kernel_rfl) (by kernel_rfl) (fun _ _ _ h => h) (Or.inl ⟨by kernel_rfl, ?yf12⟩) (by assumption) ?rf12
      case yf12 => intro w hSw; (try dsimp only at hSw); go_simp; try with_reducible rfl
      try simp only [Act.put, List.setIfInBounds_toArray, List.set_cons_zero, List.set_cons_succ]
      refine wpAnyH_take (i := 13) (oi := { dst := some 3, op := _, type := _, pos := _, after := _, guard := _ }) (v := ?vf13) rfl (by kernel_rfl) (by kernel_rfl) (by kernel_rfl) (fun _ _ _ h => h) (Or.inl ⟨by kernel_rfl, ?yf13⟩) (by assumption) ?rf13
      case yf13 => intro w hSw; (try dsimp only at hSw); go_simp; try with_reducible rfl
      try simp only [Act.put, List.setIfInBounds_toArray, List.set_cons_zero, List.set_cons_succ]
      refine wpAnyH_take (i := 14) (oi := { dst := some 4, op := _, type := _, pos := _, after := _, guard := _ }) (v := ?vf14) rfl (by kernel_rfl) (by kernel_rfl) (by kernel_rfl) (fun _ _ _ h => h) (Or.inl ⟨by kernel_rfl, ?yf14⟩) (by assumption) ?rf14
      case yf14 => intro w hSw; (try dsimp only at hSw); go_simp; try with_reducible rfl
      try simp only [Act.put, List.setIfInBounds_toArray, List.set_cons_zero, List.set_cons_succ]
      refine wpAnyH_take (i := 15) (oi := { dst := some 5, op := _, type := _, pos := _, after := _, guard := _ }) (v := ?vf15) rfl (by kernel_rfl) (by kernel_rfl) (by kernel_rfl) (fun _ _ _ h => h) (Or.inl ⟨by kernel_rfl, ?yf15⟩) (by assumption) ?rf15
      case yf15 => intro w hSw; (try dsimp only at hSw); go_simp; try with_reducible rfl
      try simp only [Act.put, List.setIfInBounds_toArray, List.set_cons_zero, List.set_cons_succ]
      refine wpAnyH_done (by kernel_rfl) ?_ _
      go_wp2
      refine bodyPost_ret (v := .tuple #[.int .i64 (m : Int), .slice B zs.length d, .int .i64 f, .int .i64 rr]) (by simp [results, Try.results33, go_sem]) rfl ?_
      exact ⟨m, B, d, zs, f, rr, _, rfl, hm2, hm5, hzl, ⟨f0, f1⟩, ⟨by omega, by omega⟩, HO5.out.more (Nat.le_refl _) (by have := HS5.out; have : w4.heap.size = w4.drew.heap.size := rfl; omega), HR5.out, by omega, HG5.out⟩

end Go.Proofs.Ytnekjhpocfdpnaa
