/-
  LoadAdd of the program.
-/
import Derived.Test.YtbnpglljloaclaaTfI1
import Derived.Test.YtbnpglljloaclaaTfT
import Derived.Test.YtbnpglljloaclaaTfL
namespace Go.Proofs.Ytbnpglljloaclaa
open Go.RowKit Go.Maps

set_option maxRecDepth 100000 in
set_option maxHeartbeats 4000000 in
theorem implLoadAdd_b (n f t : Int) (A B C : Option Addr) (c d e : Nat) (ss : List Lin) (L M : List Int) (w : World) (ha : ArgL w A c ss) (hb : Arg w B d L) (hc : Arg w C e M) :
    Calls Try.prog 54 #[.int .i64 n, .slice A ss.length c, .int .i64 f, .int .i64 t, .slice B L.length d, .slice C M.length e] w (RetS 3 (fun v => .tuple #[v, .bool (addB n ss f t L M)]) (addV n ss f t L M) w) := by
  have HA := Lib.hid ha
  have HB := Lib.hid hb
  have HC := Lib.hid hc
  clear ha hb hc
  go_enter Try.func54, Try.ntmps54
  go_wp2_with fail
  refine (implLoadValid_b n f t _ _ _ _ _ _ _ HA.out HB.out).mono ?_
  rintro e w1 ⟨rfl, hb1⟩
  have Hb1 := Lib.hid hb1
  clear hb1
  cases e1 : loadB n ss f t L
  · have E := Lib.hid (add_no1 (M := M) e1)
    have N := Lib.hid (add_no E.out)
    clear e1
    go_wp2
    go_ret2
    rw [N.out, E.out]
    exact RetS.nil (f := fun v => .tuple #[v, .bool false]) Hb1.out
  go_wp2_with fail
  refine (implLoadValid_b n f t _ _ _ _ _ _ _ (HA.out.go Hb1.out) (HC.out.go Hb1.out)).mono ?_
  rintro e w2 ⟨rfl, hb2⟩
  have Hb2 := Lib.hid (below_step Hb1.out hb2)
  clear hb2
  cases e2 : loadB n ss f t M
  · have E := Lib.hid (add_no2 (L := L) e2)
    have N := Lib.hid (add_no E.out)
    clear e1 e2
    go_wp2
    go_ret2
    rw [N.out, E.out]
    exact RetS.nil (f := fun v => .tuple #[v, .bool false]) Hb2.out
  obtain ⟨he, hc1, _⟩ := loadB_true.1 e1
  obtain ⟨_, hc2, _⟩ := loadB_true.1 e2
  have hn := (endB_true.1 he).1
  have hl1 := (chB_true.1 hc1).1
  have hl2 := (chB_true.1 hc2).1
  have h10 := (netB_true.1 hn).2.1
  obtain ⟨l1, l2⟩ : L.length ≤ ss.length ∧ ss.length ≤ L.length := by omega
  obtain ⟨l3, l4⟩ : M.length ≤ ss.length ∧ ss.length ≤ M.length := by omega
  clear hl1 hl2
  have h91 := ch9 hn hc1
  have h92 := ch9 hn hc2
  have E1 := Lib.hid e1
  have E2 := Lib.hid e2
  have H91 := Lib.hid h91
  have H92 := Lib.hid h92
  clear e1 e2 he hc1 hc2 hn h91 h92
  go_wp2_with fail
  refine (usageOf_c _ _ _ _ (HB.out.go Hb2.out) (fun k hk => by have := H91.out k hk; omega)).mono ?_
  rintro e w3 ⟨P, rfl, hP, hu, hb3⟩
  have Hb3 := Lib.hid (below_step Hb2.out hb3)
  have hPl := hu.lt
  have HU := Lib.hid hu
  clear hb3 hu
  go_wp2_with fail
  refine (usageOf_c _ _ _ _ (HC.out.go Hb3.out) (fun k hk => by have := H92.out k hk; omega)).mono ?_
  rintro e w4 ⟨Q, rfl, hQ, hv, hb4⟩
  have Hb4 := Lib.hid (below_step Hb3.out hb4)
  have Hadd := Lib.hid (add_c P Q L M w4 (HU.out.go hb4) hv (by omega) (by omega) (by omega) H91.out H92.out)
  clear hb4 hv
  have hPw : w.heap.size ≤ P := by have := Hb2.out.size; omega
  go_wp2_with fail
  refine Hadd.out.mono ?_
  rintro e w5 ⟨⟨v5, rfl⟩, hu5, hg5⟩
  have Hb5 := Lib.hid (Hb4.out.grown hg5 Hb4.out.size (fun r e => by injection e with e; omega))
  have HU5 := Lib.hid hu5
  clear hu5 hg5
  have hsl := sumL_len L M
  have Hsl := Lib.hid hsl
  go_wp2_with fail
  refine (told_c _ _ _ HU5.out (by omega)).mono ?_
  rintro e w6 ⟨T, ct, rfl, ra6, ro6, rb6⟩
  dsimp only [id]
  have Ra := Lib.hid ra6
  have Ro := Lib.hid (ro6.more (lo' := w.heap.size) Hb5.out.size (Nat.le_refl _))
  have Hb6 := Lib.hid (below_step Hb5.out rb6)
  clear ra6 ro6 rb6 hsl
  go_wp2_with fail
  refine (implLoadValid_b n f t _ _ _ _ _ _ _ (HA.out.go Hb6.out) Ra.out).mono ?_
  rintro e w7 ⟨rfl, hb7⟩
  have Hb7 := Lib.hid (below_step Hb6.out hb7)
  have Ro7 := Lib.hid (own_below Ro.out.1 hb7)
  clear hb7
  cases e3 : loadB n ss f t (sumL L M)
  · have E := Lib.hid (add_no3 (L := L) e3)
    have N := Lib.hid (add_no E.out)
    clear e3
    go_wp2
    go_ret2
    rw [N.out, E.out]
    exact RetS.nil (f := fun v => .tuple #[v, .bool false]) Hb7.out
  · have N := Lib.hid (add_yes E1.out E2.out e3)
    clear e3
    go_wp2
    go_ret2
    rw [N.out.1, N.out.2]
    exact RetS.mk (f := fun v => .tuple #[v, .bool true]) (by rw [Hsl.out]; omega) Ro7.out Hb7.out
end Go.Proofs.Ytbnpglljloaclaa
