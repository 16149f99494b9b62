/-
  The law FnFit: for every code the law answers true. No condition.
-/
import Derived.Test.YtkicifkigbciaaaFac
import Derived.Test.YtkicifkigbciaaaZDrawJ
import Derived.Test.YtkicifkigbciaaaSpFi
import Derived.Test.YtkicifkigbciaaaSame
import Derived.Test.YtkicifkigbciaaaRowB
import Derived.BigQuiet
namespace Go.Proofs.Ytkicifkigbciaaa
open Go.ChangeShapes Go.WideShapes Go.ChangeAt Go.RowKit

/-- the best one is the best one -/
theorem fitN_best (L : List Spr) (d : Spr) : ∀ (k j : Nat), fitN L d k = (j : Int) → j < k ∧ srvB (sprAt L j) d = true ∧ ∀ i, i < k → srvB (sprAt L i) d = true → (sprAt L j).m < (sprAt L i).m ∨ ((sprAt L j).m = (sprAt L i).m ∧ j ≤ i)
  | 0, j, h => by rw [fitN] at h; omega
  | k + 1, j, h => by
    by_cases hc : srvB (sprAt L k) d = true ∧ (fitN L d k < 0 ∨ (sprAt L k).m < (sprAt L (fitN L d k).toNat).m)
    · rw [fitN_step_yes hc.1 hc.2] at h
      obtain rfl : k = j := by omega
      refine ⟨by omega, hc.1, fun i hi hs => ?_⟩
      by_cases e : i = k
      · subst e; exact .inr ⟨rfl, Nat.le_refl _⟩
      · rcases hc.2 with h2 | h2
        · exfalso
          -- nobody served before
          rcases fitN_bst L d k with ⟨h3, _⟩ | ⟨j', _, h3, _⟩
          · have hno := bst_nil h3
            have hmem : [(i : Int)] ∈ preS L [d] [] k := by
              unfold preS
              rw [List.mem_flatMap]
              exact ⟨[(i : Int)], ext_mem.2 ⟨i, by omega, by rw [sf_one]; exact hs, rfl⟩, by rw [fromS_end (by simp)]; simp⟩
            rw [hno] at hmem
            simp at hmem
          · omega
        · rcases fitN_bst L d k with ⟨_, h3⟩ | ⟨j', _, h3, _⟩
          · exfalso
            rw [h3] at h2
            rcases fitN_bst L d k with ⟨h4, _⟩ | ⟨j'', _, h4, _⟩
            · have hno := bst_nil h4
              have hmem : [(i : Int)] ∈ preS L [d] [] k := by
                unfold preS
                rw [List.mem_flatMap]
                exact ⟨[(i : Int)], ext_mem.2 ⟨i, by omega, by rw [sf_one]; exact hs, rfl⟩, by rw [fromS_end (by simp)]; simp⟩
              rw [hno] at hmem
              simp at hmem
            · omega
          · have ih := fitN_best L d k j' h3
            rw [h3, Int.toNat_natCast] at h2
            rcases ih.2.2 i (by omega) hs with h4 | h4
            · exact .inl (by omega)
            · exact .inl (by omega)
    · rw [fitN_step_no hc] at h
      obtain ⟨h1, h2, h3⟩ := fitN_best L d k j h
      refine ⟨by omega, h2, fun i hi hs => ?_⟩
      by_cases e : i = k
      · subst e
        have h4 : ¬ ((sprAt L i).m < (sprAt L j).m) := fun h5 => hc ⟨hs, .inr (by rw [h, Int.toNat_natCast]; exact h5)⟩
        by_cases h5 : (sprAt L j).m < (sprAt L i).m
        · exact .inl h5
        · exact .inr ⟨by omega, by omega⟩
      · exact h3 i (by omega) hs
theorem fit_found {L : List Spr} {d : Spr} (h : serveB L [d] = true) : ∃ j : Nat, fitV L d = (j : Int) ∧ serveL L [d] = [(j : Int)] ∧ j < L.length ∧ L.length ≤ 10 ∧ srvB (sprAt L j) d = true ∧ ∀ i, i < L.length → srvB (sprAt L i) d = true → (sprAt L j).m < (sprAt L i).m ∨ ((sprAt L j).m = (sprAt L i).m ∧ j ≤ i) := by
  obtain ⟨x, hB, hx, hsl⟩ := serve_some h
  have hbd := fitN_bd L d L.length
  have hge : ¬ fitN L d L.length < 0 := fun hn => by have := ((fit_all hB).1 hn).1; rw [h] at this; cases this
  have hv := ((fit_all hB).2 hge).2
  obtain ⟨j, hj⟩ : ∃ j : Nat, fitN L d L.length = (j : Int) := ⟨(fitN L d L.length).toNat, by omega⟩
  obtain ⟨h1, h2, h3⟩ := fitN_best L d L.length j hj
  refine ⟨j, by rw [hv, hj], ?_, h1, (sprB_true.1 (bothB_true.1 hB).1).1, h2, h3⟩
  rcases fitN_bst L d L.length with ⟨_, h4⟩ | ⟨j', h4, h5, _⟩
  · omega
  · rw [hsl]
    rw [preS_all (by simp)] at h4
    rw [h4] at hx
    injection hx with hx
    rw [← hx]
    have : j' = j := by omega
    rw [this]

set_option maxRecDepth 100000 in
set_option maxHeartbeats 8000000 in
theorem fnFit_in (A : Option Addr) (n c : Nat) (w : World) (hl : n ≤ 1048576) (hnc : n ≤ c) (hb : Bytes w.heap.size w A n) :
    Calls Try.prog 3 #[.slice A n c] w (RetB (.bool true) w) := by
  have Hb := Lib.hid hb
  clear hb
  go_enter Try.func3, Try.ntmps3
  go_wp2_with fail
  refine (DrawSparesFit_c A n c _ (by omega) hnc Hb.out).mono ?_
  rintro e w1 ⟨B, d, L, s, rfl, hzl, hA, hB⟩
  obtain ⟨w2, hw2⟩ : ∃ w2, w1.alloc (.cells #[.int .i64 s.m, .int .i64 s.k] 25) = w2 := ⟨_, rfl⟩
  have hb2 : Below w1.heap.size w1 w2 := by rw [← hw2]; exact (Below.refl _ _).alloc (Nat.le_refl _) _
  have hs2 : w1.heap.size < w2.heap.size := by rw [← hw2]; simp
  have hn2 : SprAt w2 w1.heap.size 0 s := ⟨by rw [← hw2]; exact cell_of_row _ _ 0 _ _ _ (heap_alloc_new w1 _), by rw [← hw2]; exact cell_of_row _ _ 1 _ _ _ (heap_alloc_new w1 _)⟩
  have Ha := Lib.hid (hA.go hb2)
  have Bt := Lib.hid (below_step hB hb2)
  have Hs := Lib.hid hn2
  have Hw2 := Lib.hid hw2
  obtain ⟨N, hN⟩ : ∃ N, w1.heap.size = N := ⟨_, rfl⟩
  rw [hN] at hs2 Hs
  obtain ⟨x0, x1⟩ := fit_load _ _ _ _ Hs.out
  rw [Nat.zero_add] at x1
  obtain ⟨fv, hfv⟩ : ∃ fv, fitV L s = fv := ⟨_, rfl⟩
  obtain ⟨fb, hfb⟩ : ∃ fb, serveB L [s] = fb := ⟨_, rfl⟩
  have Hspec := Lib.hid (fun A c w h => specSparesFit_b A c L s w h)
  have Himpl := Lib.hid (fun A c w h => implSparesFit_b A c L s w h)
  rw [hfv, hfb] at Hspec Himpl
  have nv : (fv != fv) = false := by simp
  have ne : (fv == fv) = true := by simp
  have Hfv := Lib.hid hfv
  have Hfb := Lib.hid hfb
  clear hA hB Hb hb2 hn2 hw2 hfv hfb
  go_wp2_with fail
  rw [Hw2.out]
  refine (Himpl.out B d _ Ha.out).mono ?_
  rintro e w3 ⟨rfl, rb3⟩
  have s3 := rb3.size
  replace Ha := Lib.hid (Ha.out.go rb3)
  replace Bt := Lib.hid (below_step Bt.out rb3)
  replace Hs := Lib.hid (Hs.out.below rb3 (by omega))
  have hs3 : N < w3.heap.size := by omega
  clear rb3 x0 x1
  obtain ⟨x0, x1⟩ := fit_load _ _ _ _ Hs.out
  rw [Nat.zero_add] at x1
  go_wp2_with fail
  refine (Hspec.out B d _ Ha.out).mono ?_
  rintro e w4 ⟨rfl, rb4⟩
  have s4 := rb4.size
  replace Ha := Lib.hid (Ha.out.go rb4)
  replace Bt := Lib.hid (below_step Bt.out rb4)
  replace Hs := Lib.hid (Hs.out.below rb4 (by omega))
  have hs4 : N < w4.heap.size := by omega
  clear rb4 x0 x1
  cases fb
  · go_wp2
    go_ret
    exact ⟨rfl, Bt.out⟩
  obtain ⟨j, hj, hsl, hjL, hl10, hsv, hbest⟩ := fit_found Hfb.out
  obtain rfl : fv = (j : Int) := Hfv.out.symm.trans hj
  have Hsl := Lib.hid hsl
  have Hbest := Lib.hid hbest
  have Hsv := Lib.hid (srvB_true.1 hsv)
  clear hj hsl hsv hbest
  go_wp2
  go_loopw [9] (fun iv wr => ∃ i : Nat, i ≤ L.length ∧ iv = .int .i64 i ∧ Below w4.heap.size w4 wr) (fun iv _ => L.length - (intOf iv).toNat)
  case atStart => exact ⟨0, Nat.zero_le _, rfl, Below.refl _ _⟩
  case round =>
    obtain ⟨i, hi, rfl, hb⟩ := hrel
    have Hb := Lib.hid hb
    clear hb
    obtain ⟨n0, n1⟩ := fit_load _ _ _ _ (Hs.out.below Hb.out hs4)
    rw [Nat.zero_add] at n1
    by_cases hlt : i < L.length
    · obtain ⟨b, off, rfl, _, _, c0, c1⟩ := (Ha.out.go Hb.out).rd.at_ hlt
      obtain ⟨b', off', e', _, _, d0, d1⟩ := (Ha.out.go Hb.out).rd.at_ hjL
      injection e' with e'
      injection e' with e1 e2 _
      subst e1; subst e2
      have hbi := Hbest.out i hlt
      have hsti := @srvB_true (sprAt L i) s
      obtain ⟨t, ht⟩ : ∃ t, sprAt L i = t := ⟨_, rfl⟩
      obtain ⟨o, ho⟩ : ∃ o, sprAt L j = o := ⟨_, rfl⟩
      rw [ht] at c0 c1 hsti
      rw [ho] at d0 d1
      rw [ht, ho] at hbi
      have g1 : (i : Int) < (L.length : Int) := by omega
      have g2 : (j : Int) < (L.length : Int) := by omega
      clear ht ho
      by_cases hk : t.k = s.k
      · have hkb : (t.k == s.k) = true := by simp [hk]
        by_cases hm : s.m ≤ t.m
        · have h1 := hbi (hsti.2 ⟨hk, hm⟩)
          have e1 : decide (t.m < o.m) = false := decide_eq_false (by omega)
          have g3 : s.m ≤ t.m := hm
          by_cases hij : i < j
          · have e2 : decide ((i : Int) < (j : Int)) = true := decide_eq_true (by omega)
            have e3 : (t.m == o.m) = false := beq_false_of_ne (by omega)
            clear hbi hsti h1 hk
            go_wp2
            go_quiet (fail)
            go_wp2
            go_quiet (fail)
            go_wp2
            go_roundw
            case rel => exact ⟨i + 1, by omega, by go_num, below_drewN Hb.out _⟩
            case measure => simp [intOf]; omega
          · have e2 : decide ((i : Int) < (j : Int)) = false := decide_eq_false (by omega)
            clear hbi hsti h1 hk
            go_wp2
            go_quiet (fail)
            go_wp2
            go_quiet (fail)
            go_wp2
            go_roundw
            case rel => exact ⟨i + 1, by omega, by go_num, below_drewN Hb.out _⟩
            case measure => simp [intOf]; omega
        · have e1 : decide (s.m ≤ t.m) = false := decide_eq_false hm
          clear hbi hsti hk
          go_wp2
          go_quiet (fail)
          go_wp2
          go_quiet (fail)
          go_wp2
          go_roundw
          case rel => exact ⟨i + 1, by omega, by go_num, below_drewN Hb.out _⟩
          case measure => simp [intOf]; omega
      · have hkb : (t.k == s.k) = false := by simp [hk]
        clear hbi hsti hk
        go_wp2
        go_quiet (fail)
        go_wp2
        go_quiet (fail)
        go_wp2
        go_roundw
        case rel => exact ⟨i + 1, by omega, by go_num, below_drewN Hb.out _⟩
        case measure => simp [intOf]; omega
    · obtain rfl : i = L.length := by omega
      obtain ⟨w6, hw6⟩ : ∃ w6, wr.alloc (.cells #[.int .i64 s.m, .int .i64 s.k] 25) = w6 := ⟨_, rfl⟩
      have hb6 : Below wr.heap.size wr w6 := by rw [← hw6]; exact (Below.refl _ _).alloc (Nat.le_refl _) _
      have Hone := Lib.hid (show ArgZ w6 (some ⟨wr.heap.size, 0, none⟩) 1 [s] by rw [← hw6]; exact argZ_one wr s _)
      have Hb6 := Lib.hid (below_step Hb.out hb6)
      have Hw6 := Lib.hid hw6
      clear hb6 hw6
      go_wp2_with fail
      rw [Hw6.out]
      refine (implServeBest_b B d L (some ⟨wr.heap.size, 0, none⟩) 1 [s] _ (Ha.out.go Hb6.out) Hone.out).mono ?_
      rintro e w7 ⟨B7, d7, rfl, ra7, ro7, rb7⟩
      dsimp only
      rw [Hsl.out, Hfb.out] at *
      have Hb7 := Lib.hid (below_step Hb6.out rb7)
      have Hr7 := Lib.hid ra7
      clear ra7 ro7 rb7 n0 n1
      have hs7 : N < w7.heap.size := by have := Hb7.out.size; omega
      obtain ⟨n0, n1⟩ := fit_load _ _ _ _ (Hs.out.below Hb7.out hs4)
      rw [Nat.zero_add] at n1
      obtain ⟨b, off, rfl, _, hbw, d0, d1⟩ := (Ha.out.go Hb7.out).rd.at_ hjL
      obtain ⟨o, ho⟩ : ∃ o, sprAt L j = o := ⟨_, rfl⟩
      rw [ho] at d0 d1 Hsv
      have g2 : (j : Int) < (L.length : Int) := by omega
      obtain ⟨hok, hom⟩ := Hsv.out
      have hkb : (o.k == s.k) = true := by simp [hok]
      have hdt : decide ([(j : Int)] = [(j : Int)]) = true := by simp
      have pk1 := And.intro d0 (And.intro d1 (And.intro n0 n1))
      have Hpk := Lib.hid (fun (W : World) (h : Below w7.heap.size w7 W) => And.intro (below_cell (x := ⟨b, off + j * 2, none⟩) h hbw d0) (And.intro (below_cell (x := ⟨b, off + j * 2 + 1, none⟩) h hbw d1) (And.intro (below_cell (x := ⟨N, 0, none⟩) h hs7 n0) (below_cell (x := ⟨N, 1, none⟩) h hs7 n1))))
      have Hsame := Lib.hid (sameInts_c B7 (some ⟨w7.heap.size, 0, none⟩) d7 1 [(j : Int)] [(j : Int)] (w7.drew.alloc (.cells #[.int .i64 (j : Int)] 3)) (Hr7.out.go (((Below.refl _ _).drew).alloc (Nat.le_refl _) _)) (arg_one w7.drew (j : Int) _))
      have Bt7 := Lib.hid (below_step Bt.out Hb7.out)
      clear ho hok d0 d1 n0 n1
      go_wp2
      refine wp_region_held_drew (S := (fun w9 => w9.cell? ⟨b, off + j * 2, none⟩ = some (.int .i64 o.m) ∧ w9.cell? ⟨b, off + j * 2 + 1, none⟩ = some (.int .i64 o.k) ∧ w9.cell? ⟨N, 0, none⟩ = some (.int .i64 s.m) ∧ w9.cell? ⟨N, 1, none⟩ = some (.int .i64 s.k))) (by kernel_rfl) (pk1) (fun hHeld => ?_)
      refine wpAnyH_take (i := 0) (oi := { dst := some 116, op := _, type := _, pos := _, after := _, guard := _ }) (v := ?v0) rfl (by kernel_rfl) (by kernel_rfl) (by kernel_rfl) (fun _ _ _ h => h) (Or.inl ⟨by kernel_rfl, ?y0⟩) (by assumption) ?r0
      case y0 => intro w hSw; (try dsimp only at hSw); go_simp; try with_reducible rfl
      try simp only [Act.put, List.setIfInBounds_toArray, List.set_cons_zero, List.set_cons_succ]
      refine wpAnyH_take (i := 1) (oi := { dst := some 117, op := _, type := _, pos := _, after := _, guard := _ }) (v := ?v1) rfl (by kernel_rfl) (by kernel_rfl) (by kernel_rfl) (fun _ _ _ h => h) (Or.inl ⟨by kernel_rfl, ?y1⟩) (by assumption) ?r1
      case y1 => intro w hSw; (try dsimp only at hSw); go_simp; try with_reducible rfl
      try simp only [Act.put, List.setIfInBounds_toArray, List.set_cons_zero, List.set_cons_succ]
      refine wpAnyH_take (i := 2) (oi := { dst := some 118, op := _, type := _, pos := _, after := _, guard := _ }) (v := ?v2) rfl (by kernel_rfl) (by kernel_rfl) (by kernel_rfl) (fun _ _ _ h => h) (Or.inl ⟨by kernel_rfl, ?y2⟩) (by assumption) ?r2
      case y2 => intro w hSw; (try dsimp only at hSw); go_simp; try with_reducible rfl
      try simp only [Act.put, List.setIfInBounds_toArray, List.set_cons_zero, List.set_cons_succ]
      refine wpAnyH_take (i := 3) (oi := { dst := some 119, op := _, type := _, pos := _, after := _, guard := _ }) (v := ?v3) rfl (by kernel_rfl) (by kernel_rfl) (by kernel_rfl) (fun _ _ _ h => h) (Or.inl ⟨by kernel_rfl, ?y3⟩) (by assumption) ?r3
      case y3 => intro w hSw; (try dsimp only at hSw); go_simp; try with_reducible rfl
      try simp only [Act.put, List.setIfInBounds_toArray, List.set_cons_zero, List.set_cons_succ]
      refine wpAnyH_take (i := 4) (oi := { dst := some 120, op := _, type := _, pos := _, after := _, guard := _ }) (v := ?v4) rfl (by kernel_rfl) (by kernel_rfl) (by kernel_rfl) (fun _ _ _ h => h) (Or.inl ⟨by kernel_rfl, ?y4⟩) (by assumption) ?r4
      case y4 => intro w hSw; (try dsimp only at hSw); go_simp; try with_reducible rfl
      try simp only [Act.put, List.setIfInBounds_toArray, List.set_cons_zero, List.set_cons_succ]
      refine wpAnyH_take (i := 5) (oi := { dst := some 121, op := _, type := _, pos := _, after := _, guard := _ }) (v := ?v5) rfl (by kernel_rfl) (by kernel_rfl) (by kernel_rfl) (fun _ _ _ h => h) (Or.inl ⟨by kernel_rfl, ?y5⟩) (by assumption) ?r5
      case y5 => intro w hSw; (try dsimp only at hSw); go_simp; try with_reducible rfl
      try simp only [Act.put, List.setIfInBounds_toArray, List.set_cons_zero, List.set_cons_succ]
      refine wpAnyH_take (i := 6) (oi := { dst := some 122, op := _, type := _, pos := _, after := _, guard := _ }) (v := ?v6) rfl (by kernel_rfl) (by kernel_rfl) (by kernel_rfl) (fun _ _ _ h => h) (Or.inl ⟨by kernel_rfl, ?y6⟩) (by assumption) ?r6
      case y6 => intro w hSw; (try dsimp only at hSw); go_simp; try with_reducible rfl
      try simp only [Act.put, List.setIfInBounds_toArray, List.set_cons_zero, List.set_cons_succ]
      refine wpAnyH_take (i := 7) (oi := { dst := some 123, op := _, type := _, pos := _, after := _, guard := _ }) (v := ?v7) rfl (by kernel_rfl) (by kernel_rfl) (by kernel_rfl) (fun _ _ _ h => h) (Or.inl ⟨by kernel_rfl, ?y7⟩) (by assumption) ?r7
      case y7 => intro w hSw; (try dsimp only at hSw); go_simp; try with_reducible rfl
      try simp only [Act.put, List.setIfInBounds_toArray, List.set_cons_zero, List.set_cons_succ]
      refine wpAnyH_take (i := 8) (oi := { dst := some 124, op := _, type := _, pos := _, after := _, guard := _ }) (v := ?v8) rfl (by kernel_rfl) (by kernel_rfl) (by kernel_rfl) (fun _ _ _ h => h) (Or.inl ⟨by kernel_rfl, ?y8⟩) (by assumption) ?r8
      case y8 => intro w hSw; (try dsimp only at hSw); go_simp; try with_reducible rfl
      try simp only [Act.put, List.setIfInBounds_toArray, List.set_cons_zero, List.set_cons_succ]
      refine wpAnyH_take (i := 9) (oi := { dst := some 125, op := _, type := _, pos := _, after := _, guard := _ }) (v := ?v9) rfl (by kernel_rfl) (by kernel_rfl) (by kernel_rfl) (fun _ _ _ h => h) (Or.inl ⟨by kernel_rfl, ?y9⟩) (by assumption) ?r9
      case y9 => intro w hSw; (try dsimp only at hSw); go_simp; try with_reducible rfl
      try simp only [Act.put, List.setIfInBounds_toArray, List.set_cons_zero, List.set_cons_succ]
      refine wpAnyH_take (i := 10) (oi := { dst := some 126, op := _, type := _, pos := _, after := _, guard := _ }) (v := ?v10) rfl (by kernel_rfl) (by kernel_rfl) (by kernel_rfl) (fun _ _ _ h => h) (Or.inl ⟨by kernel_rfl, ?y10⟩) (by assumption) ?r10
      case y10 => intro w hSw; (try dsimp only at hSw); go_simp; try with_reducible rfl
      try simp only [Act.put, List.setIfInBounds_toArray, List.set_cons_zero, List.set_cons_succ]
      refine wpAnyH_take (i := 11) (oi := { dst := some 127, op := _, type := _, pos := _, after := _, guard := _ }) (v := ?v11) rfl (by kernel_rfl) (by kernel_rfl) (by kernel_rfl) (fun _ _ _ h => h) (Or.inl ⟨by kernel_rfl, ?y11⟩) (by assumption) ?r11
      case y11 => intro w hSw; (try dsimp only at hSw); go_simp; try with_reducible rfl
      try simp only [Act.put, List.setIfInBounds_toArray, List.set_cons_zero, List.set_cons_succ]
      refine wpAnyH_take (i := 12) (oi := { dst := some 128, op := _, type := _, pos := _, after := _, guard := _ }) (v := ?v12) rfl (by kernel_rfl) (by kernel_rfl) (by kernel_rfl) (fun _ _ _ h => h) (Or.inl ⟨by kernel_rfl, ?y12⟩) (by assumption) ?r12
      case y12 => intro w hSw; (try dsimp only at hSw); go_simp; try with_reducible rfl
      try simp only [Act.put, List.setIfInBounds_toArray, List.set_cons_zero, List.set_cons_succ]
      refine wpAnyH_take (i := 13) (oi := { dst := some 129, op := _, type := _, pos := _, after := _, guard := _ }) (v := ?v13) rfl (by kernel_rfl) (by kernel_rfl) (by kernel_rfl) (fun _ _ _ h => h) (Or.inl ⟨by kernel_rfl, ?y13⟩) (by assumption) ?r13
      case y13 => intro w hSw; (try dsimp only at hSw); go_simp; try with_reducible rfl
      try simp only [Act.put, List.setIfInBounds_toArray, List.set_cons_zero, List.set_cons_succ]
      refine wpAnyH_take (i := 14) (oi := { dst := some 130, op := _, type := _, pos := _, after := _, guard := _ }) (v := ?v14) rfl (by kernel_rfl) (by kernel_rfl) (by kernel_rfl) (fun _ _ _ h => h) (Or.inl ⟨by kernel_rfl, ?y14⟩) (by assumption) ?r14
      case y14 => intro w hSw; (try dsimp only at hSw); go_simp; try with_reducible rfl
      try simp only [Act.put, List.setIfInBounds_toArray, List.set_cons_zero, List.set_cons_succ]
      refine wpAnyH_take (i := 15) (oi := { dst := some 131, op := _, type := _, pos := _, after := _, guard := _ }) (v := ?v15) rfl (by kernel_rfl) (by kernel_rfl) (by kernel_rfl) (fun _ _ _ h => h) (Or.inl ⟨by kernel_rfl, ?y15⟩) (by assumption) ?r15
      case y15 => intro w hSw; (try dsimp only at hSw); go_simp; try with_reducible rfl
      try simp only [Act.put, List.setIfInBounds_toArray, List.set_cons_zero, List.set_cons_succ]
      refine wpAnyH_take (i := 16) (oi := { dst := some 132, op := _, type := _, pos := _, after := _, guard := _ }) (v := ?v16) rfl (by kernel_rfl) (by kernel_rfl) (by kernel_rfl) (fun _ _ _ h => h) (Or.inl ⟨by kernel_rfl, ?y16⟩) (by assumption) ?r16
      case y16 => intro w hSw; (try dsimp only at hSw); go_simp; try with_reducible rfl
      try simp only [Act.put, List.setIfInBounds_toArray, List.set_cons_zero, List.set_cons_succ]
      refine wpAnyH_take (i := 17) (oi := { dst := some 133, op := _, type := _, pos := _, after := _, guard := _ }) (v := ?v17) rfl (by kernel_rfl) (by kernel_rfl) (by kernel_rfl) (fun _ _ _ h => h) (Or.inl ⟨by kernel_rfl, ?y17⟩) (by assumption) ?r17
      case y17 => intro w hSw; (try dsimp only at hSw); go_simp; try with_reducible rfl
      try simp only [Act.put, List.setIfInBounds_toArray, List.set_cons_zero, List.set_cons_succ]
      refine wpAnyH_take (i := 18) (oi := { dst := some 134, op := _, type := _, pos := _, after := _, guard := _ }) (v := ?v18) rfl (by kernel_rfl) (by kernel_rfl) (by kernel_rfl) (fun _ _ _ h => h) (Or.inl ⟨by kernel_rfl, ?y18⟩) (by assumption) ?r18
      case y18 => intro w hSw; (try dsimp only at hSw); go_simp; try with_reducible rfl
      try simp only [Act.put, List.setIfInBounds_toArray, List.set_cons_zero, List.set_cons_succ]
      refine wpAnyH_take (i := 19) (oi := { dst := some 135, op := _, type := _, pos := _, after := _, guard := _ }) (v := ?v19) rfl (by kernel_rfl) (by kernel_rfl) (by kernel_rfl) (fun _ _ _ h => h) (Or.inl ⟨by kernel_rfl, ?y19⟩) (by assumption) ?r19
      case y19 => intro w hSw; (try dsimp only at hSw); go_simp; try with_reducible rfl
      try simp only [Act.put, List.setIfInBounds_toArray, List.set_cons_zero, List.set_cons_succ]
      refine wpAnyH_take (i := 20) (oi := { dst := some 136, op := _, type := _, pos := _, after := _, guard := _ }) (v := ?v20) rfl (by kernel_rfl) (by kernel_rfl) (by kernel_rfl) (fun _ _ _ h => h) (Or.inl ⟨by kernel_rfl, ?y20⟩) (by assumption) ?r20
      case y20 => intro w hSw; (try dsimp only at hSw); go_simp; try with_reducible rfl
      try simp only [Act.put, List.setIfInBounds_toArray, List.set_cons_zero, List.set_cons_succ]
      refine wpAnyH_take (i := 21) (oi := { dst := some 137, op := _, type := _, pos := _, after := _, guard := _ }) (v := ?v21) rfl (by kernel_rfl) (by kernel_rfl) (by kernel_rfl) (fun _ _ _ h => h) (Or.inl ⟨by kernel_rfl, ?y21⟩) (by assumption) ?r21
      case y21 => intro w hSw; (try dsimp only at hSw); go_simp; try with_reducible rfl
      try simp only [Act.put, List.setIfInBounds_toArray, List.set_cons_zero, List.set_cons_succ]
      refine wpAnyH_take (i := 22) (oi := { dst := some 138, op := _, type := _, pos := _, after := _, guard := _ }) (v := ?v22) rfl (by kernel_rfl) (by kernel_rfl) (by kernel_rfl) (fun _ _ _ h => h) (Or.inl ⟨by kernel_rfl, ?y22⟩) (by assumption) ?r22
      case y22 => intro w hSw; (try dsimp only at hSw); go_simp; try with_reducible rfl
      try simp only [Act.put, List.setIfInBounds_toArray, List.set_cons_zero, List.set_cons_succ]
      refine wpAnyH_take (i := 23) (oi := { dst := some 139, op := _, type := _, pos := _, after := _, guard := _ }) (v := ?v23) rfl (by kernel_rfl) (by kernel_rfl) (by kernel_rfl) (fun _ _ _ h => h) (Or.inl ⟨by kernel_rfl, ?y23⟩) (by assumption) ?r23
      case y23 => intro w hSw; (try dsimp only at hSw); go_simp; try with_reducible rfl
      try simp only [Act.put, List.setIfInBounds_toArray, List.set_cons_zero, List.set_cons_succ]
      refine wpAnyH_ready (rs := [24]) (by kernel_rfl) (by simp) ?_
      refine AllReadyH.cons (o := { dst := some 140, op := _, type := _, pos := _, after := _, guard := _ }) rfl (fun K hK => ?_) AllReadyH.nil
      go_simp
      refine hK.out _ _ (Hpk.out _ (((Below.refl _ _).drew).alloc (Nat.le_refl _) _)) (fun hHeld2 => ?_)
      clear hK K
      try simp only [Act.put, List.setIfInBounds_toArray, List.set_cons_zero, List.set_cons_succ]
      refine wpAnyH_ready (rs := [25]) (by kernel_rfl) (by simp) ?_
      refine AllReadyH.cons (o := { dst := some 141, op := _, type := _, pos := _, after := _, guard := _ }) rfl (fun K hK => ?_) AllReadyH.nil
      go_simp
      refine Hsame.out.mono ?_; rintro e w9 ⟨rfl, q9, rfl⟩; rw [hdt]
      go_wp2_with fail
      refine hK.out _ _ (Hpk.out _ (below_drewN ((Below.refl _ _).alloc (Nat.le_refl _) _) _)) (fun hHeld2 => ?_)
      clear hK K
      try simp only [Act.put, List.setIfInBounds_toArray, List.set_cons_zero, List.set_cons_succ]
      refine wpAnyH_take (i := 26) (oi := { dst := some 142, op := _, type := _, pos := _, after := _, guard := _ }) (v := ?v26) rfl (by kernel_rfl) (by kernel_rfl) (by kernel_rfl) (fun _ _ _ h => h) (Or.inl ⟨by kernel_rfl, ?y26⟩) (by assumption) ?r26
      case y26 => intro w hSw; (try dsimp only at hSw); go_simp; try with_reducible rfl
      try simp only [Act.put, List.setIfInBounds_toArray, List.set_cons_zero, List.set_cons_succ]
      refine wpAnyH_take (i := 27) (oi := { dst := some 2, op := _, type := _, pos := _, after := _, guard := _ }) (v := ?v27) rfl (by kernel_rfl) (by kernel_rfl) (by kernel_rfl) (fun _ _ _ h => h) (Or.inl ⟨by kernel_rfl, ?y27⟩) (by assumption) ?r27
      case y27 => intro w hSw; (try dsimp only at hSw); go_simp; try with_reducible rfl
      try simp only [Act.put, List.setIfInBounds_toArray, List.set_cons_zero, List.set_cons_succ]
      refine wpAnyH_done (by kernel_rfl) ?_ _
      go_wp2
      go_ret
      exact ⟨rfl, below_drewN (below_step Bt7.out ((Below.refl _ _).alloc (Nat.le_refl _) _)) _⟩

theorem fnFit_walk (A0 : Option Addr) (n0 c0 : Nat) (w : World) (hb0 : Byt0 w A0 n0 c0) :
    Calls Try.prog 3 #[.slice A0 n0 c0] w (RetB (.bool true) w) := by
  by_cases hl0 : 1048576 < n0
  · clear hb0
    go_enter Try.func3, Try.ntmps3
    go_wp2
    go_ret
    exact ⟨rfl, Below.refl _ _⟩
  exact fnFit_in A0 n0 c0 w (by omega) hb0.1 hb0.2.2

set_option maxRecDepth 100000 in
theorem fnFit_lifted (os : Os) (started : os.Started) (H : Type) (enc : TypeId × Value → H) :
    ReturnsInHanded {} Try.checked os 3 .any (Rows.fnFitSpec.pre6 enc Try.prog Try.f3 Rows.fnFitRow.domain false) (Rows.fnFitSpec.post enc Try.prog Try.f3 false true false false) := by
  refine returnsInHanded_of_change (C := Try.checked) row_own started (by kernel_rfl) Try.func3
    (ChangeSpec.witness6 (enc := enc) (C := Try.checked) false ⟨#[], #[.slice none 0 0], []⟩ 8 (by kernel_rfl) (by kernel_rfl) (by kernel_rfl) (by kernel_rfl)) ?_
  intro W base args ds gs before hval0 hW hcnd _
  have hval : ∀ (j : Nat) t v, Try.f3.params[j]? = some t → args[j]? = some v → Value.okWide Try.prog W .any base t v := hval0
  have hW' := hW
  obtain ⟨p, q, hA0, hV, rfl, _, _⟩ := hW
  have hA : DataW.TrodAll enc Try.prog W 0 (fun _ => true) true Try.f3.params.toList args.toList ds p := hA0
  rw [Try.params3] at hA hval
  obtain ⟨v0, vs0, d0, ds0, p0, q0, hargs, rfl, rfl, h0, r0⟩ := trodAll_cons hA
  obtain ⟨rfl, rfl, rfl⟩ := trodAll_nil r0
  obtain rfl : args = #[v0] := by cases args; simp_all
  obtain ⟨rfl, rfl⟩ := trodVars_none hV
  have hlt0 : ∀ x ∈ p0, x.block < W.heap.size := fun x hx => by exact hW'.lt x (by simp [hx])
  obtain ⟨A0, n0, c0, rfl, hb0⟩ := open_bytes (hval 0 22 v0 rfl rfl) h0 hlt0
  clear hA0 hval0
  refine (fnFit_walk A0 n0 c0 W hb0).mono fun e W' ⟨he, hb⟩ => ?_
  subst he
  exact ⟨_, rfl, _, _, _, [], _, [], hW', (trodAll_cons_mk (shut_bool Try.underlying4 _) trodAll_mk0), (trodAll_cons_mk (read_again_bytes h0 hlt0 hb) trodAll_mk0), rfl, hb.frame _, fun h => by cases h⟩

set_option maxRecDepth 100000 in
theorem fnFit_closed : joinedFacts Try.prog 3 Try.f3 Rows.fnFitSpec Rows.fnFitRow = true := by
  unfold joinedFacts
  repeat' (with_reducible apply facAnd)
  all_goals first | (with_reducible exact facEnter) | (with_reducible exact facLaid) | (with_reducible exact facMaps) | (with_reducible exact facStops) | (with_reducible exact facKnobs) | (with_reducible exact facHeard) | (rw [facLifts]; as_aux_lemma => kernel_rfl) | (rw [facMake]; as_aux_lemma => kernel_rfl) | (as_aux_lemma => kernel_rfl)

/-- THE STATEMENT -/
theorem fnFit_holds : Rows.FnFitSaid :=
  OpenClaim.holds_of_wide 3 Try.f3 rfl rfl rfl rfl rfl rfl rfl ⟨rfl, rfl, rfl, rfl, rfl⟩ rfl rfl rfl rfl rfl (by kernel_rfl) Try.func3 fnFit_closed
    (of_decide_eq_true (by kernel_rfl)) (by unfold Func.isWrapper; first | (rw [if_pos (by decide +kernel)]; kernel_rfl) | (rw [if_neg (by decide +kernel)]; exact ⟨rfl, rfl⟩))
    (fun os started H enc _ => fnFit_lifted os started H enc)
#print axioms fnFit_holds
end Go.Proofs.Ytkicifkigbciaaa
