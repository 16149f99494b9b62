/-
  Drawn plans: l92Plan; DrawPlanLoss. Written by genjp.py.
-/
import Derived.Test.YtodboccadccpfaaDoorJWork
import Derived.Test.YtodboccadccpfaaDoorTkH0
import Derived.Test.YtodboccadccpfaaDoorApI0
import Derived.Deep.RegionHeld3
import Derived.OwnWalk
namespace Go.Proofs.YtodboccadccpfaaDoor
open Go.RowKit

theorem own_keptI {w w' : World} {R base : Nat} {e : TypeId} {n : Nat} {v : Value} {xs : List Value} (h : w.ownsRow base e 1 v n xs) (hg : w.grownBy w' (some R)) (hR : R < base) : w'.ownsRow base e 1 v n xs := by
  refine h.kept hg ?_
  cases hb : v.ownBlock with
  | none => exact .inl rfl
  | some g => exact .inr fun e => by have := (h.lt g hb).1; simp at e; omega
theorem own_ptrP {W : World} {base n k : Nat} {e : TypeId} {v : Value} {xs : List Value} (h : W.ownsRow base e 1 v n xs) (hn : k < n) : ∃ g cap, v = .slice (some ⟨g, 0, none⟩) n cap ∧ base ≤ g ∧ n ≤ cap := by
  rcases h.2 with ⟨_, h0⟩ | ⟨g, cap, cur, h1, h2, _, h3, _⟩
  · omega
  · exact ⟨g, cap, h1, h2, h3⟩
theorem Arg.dropK {w : World} {b off c : Nat} {zs : List Int} (h : Arg w (some ⟨b, off, none⟩) c zs) (hc : zs.length ≤ c) (k : Nat) : Arg w (some ⟨b, off + (if c = k then 0 else k), none⟩) (c - k) (zs.drop k) := by
  have h1 : (zs.drop k).length = zs.length - k := by simp
  by_cases e : c = k
  · rw [if_pos e, List.drop_eq_nil_of_le (by omega)]
    exact ⟨by simp, by simp, by have := h.2.2.1; omega, Rd.nil⟩
  · rw [if_neg e]
    refine ⟨by have := h.1; omega, by have := h.2.1; omega, by have := h.2.2.1; omega, fun hn => ?_⟩
    obtain ⟨b', off', e, l1, l2, l3⟩ := h.rd (by omega)
    injection e with e
    injection e with e1 e2 _
    subst e1; subst e2
    refine ⟨b, off + k, rfl, l1, l2, fun j hj => ?_⟩
    have := l3 (k + j) (by omega)
    rw [List.getElem?_drop, ← this]
    congr 2
    omega

/-- what a drawn plan is -/
def RetPlan (R : Nat) (w : World) (e : Ending) (w' : World) : Prop :=
  ∃ (s : ByteArray) (B : Option Addr) (d : Nat) (J : List Jbs) (B2 : Option Addr) (d2 : Nat) (zs : List Int), e = .returned (.tuple #[.string s, .slice B J.length d, .slice B2 zs.length d2]) ∧ s.size ≤ 63 ∧ J.length ≤ 4 ∧ zs.length ≤ 4 ∧ ArgJ w' B d J ∧ Arg w' B2 d2 zs ∧ w.grownBy w' (some R)
theorem RetPlan.mk {R : Nat} {w w' : World} {s : ByteArray} {B : Option Addr} {d : Nat} {J : List Jbs} {v : Value} {zs : List Int} (hs : s.size ≤ 63) (hJ : J.length ≤ 4) (hz : zs.length ≤ 4) (hj : OwJ 38 w.heap.size w'.heap.size w' (.slice B J.length d) J)
    (ho : w'.ownsRow w.heap.size 3 1 v zs.length (zs.map (Value.int .i64))) (hg : w.grownBy w' (some R)) : RetPlan R w (.returned (.tuple #[.string s, .slice B J.length d, v])) w' := by
  have h := Ow.of_own ho
  obtain ⟨B2, d2, rfl, _, _, _⟩ := h.form
  exact ⟨s, B, d, J, B2, d2, zs, rfl, hs, hJ, hz, hj.arg (by omega) (Nat.le_refl _), h.arg (by omega) (Nat.le_refl _), hg⟩

set_option maxRecDepth 100000 in
set_option maxHeartbeats 4000000 in
theorem l92Plan_c (R : Nat) (A : Option Addr) (n c p : Nat) (w : World) (h : Reader w R A n c p) (hRw : R < w.heap.size) (hp : p ≤ 5000) :
    Calls Tryd.prog 25 #[.pointer (some ⟨R, 0, none⟩)] w (RetPlan R w) := by
  obtain ⟨i0, hi, hz0, hz1, hz2⟩ := info_parts intInf
  have H := Lib.hid h
  clear h
  go_enter Tryd.func25, Tryd.ntmps25
  go_wp2_with fail
  refine (l92Work_c R A n c p _ H.out hRw (by omega)).mono ?_
  rintro e w1 ⟨s, B, d, J, q, rfl, hs, hJl, hO1, hr1, hq, hg1⟩
  have hw1 := hg1.size
  have hR1 : R < w1.heap.size := by omega
  have Hst := Lib.hid (show ∃ b c9, Value.slice (some ⟨w1.heap.size, 0, none⟩) 0 0 = .slice (some ⟨b, 0, none⟩) 0 c9 ∧ (w1.alloc (.cells #[] 3)).ownsRow w1.heap.size 3 1 (.slice (some ⟨b, 0, none⟩) 0 c9) 0 [] from ⟨_, _, rfl, World.ownsRow_made w1 #[] 0 (Nat.le_refl _) (by simp) rfl⟩)
  have hga : w1.grownBy (w1.alloc (.cells #[] 3)) none := grown_alloc (World.grownBy.refl w1 none) _
  have HO1 := Lib.hid (hO1.kept hga (by simp))
  have Hw1 := Lib.hid hw1
  have Hfn := Lib.hid (fun (W : World) (v : Value) (zs' : List Int) (h1 : W.ownsRow w1.heap.size 3 1 v J.length (zs'.map (Value.int .i64))) (h2 : OwJ 38 w.heap.size w1.heap.size W (.slice B J.length d) J) (h3 : w1.heap.size ≤ W.heap.size) (h4 : w.grownBy W (some R)) (h5 : zs'.length = J.length) =>
    (show RetPlan R w (.returned (.tuple #[.string s, .slice B J.length d, v])) W from RetPlan.mk (zs := zs') hs hJl (by omega) (OwJ.more h2 (Nat.le_refl _) h3) (OwnsRow.more (by rw [h5]; exact h1) hw1) h4))
  have Hr1 := Lib.hid (hr1.kept hga (by simp))
  have Hg1 := Lib.hid (grown_alloc hg1 (.cells #[] 3))
  have Hz1 := Lib.hid hga.size
  clear hO1 hr1 hg1 hga hw1
  go_wp2
  go_loopw [7, 8] (fun ov kv wr => ∃ (k b c9 : Nat) (zs : List Int), k ≤ J.length ∧ kv = .int .i64 k ∧ zs.length = k ∧ ov = .slice (some ⟨b, 0, none⟩) k c9 ∧ wr.ownsRow w1.heap.size 3 1 (.slice (some ⟨b, 0, none⟩) k c9) k (zs.map (Value.int .i64)) ∧ OwJ 38 w.heap.size w1.heap.size wr (.slice B J.length d) J ∧ w1.heap.size ≤ wr.heap.size ∧ Reader wr R A n c (q + k) ∧ w.grownBy wr (some R)) (fun _ kv _ => J.length - (intOf kv).toNat)
  case atStart =>
    obtain ⟨b, c9, e, ho⟩ := Hst.out
    exact ⟨0, b, c9, [], Nat.zero_le _, rfl, rfl, e, ho, HO1.out, Hz1.out, Hr1.out, Hg1.out⟩
  case round =>
    obtain ⟨k, g, c9, zs, hk, rfl, hzl, rfl, ho, hJ, hzr, hrd, hg⟩ := hrel
    have hRr := Nat.lt_of_lt_of_le hRw hg.size
    have hc9 : k ≤ c9 := by
      have ho' : wr.ownsRow w1.heap.size 3 1 (.slice (some ⟨g, 0, none⟩) zs.length c9) zs.length (zs.map (Value.int .i64)) := by rw [hzl]; exact ho
      obtain ⟨A9, c8, e, h1, _, _⟩ := (Ow.of_own ho').form
      injection e with _ _ e3
      omega
    have HJ := Lib.hid hJ
    have HO := Lib.hid ho
    have Hrd := Lib.hid hrd
    have HG := Lib.hid hg
    clear hJ ho hrd hg Hst HO1 Hr1 Hg1
    by_cases hlt : k < J.length
    case pos =>
      have g1 : (k : Int) < (J.length : Int) := by omega
      have q1 : IntKind.i64.wrap ((k : Int) + 1) = (k : Int) + 1 := IntWalk.i64_in _ (by omega)
      go_wp2_with fail
      refine (pick_c R A n c (q + k) ((k : Int) + 1) _ Hrd.out (by omega) (by omega) (by omega)).mono ?_
      rintro e w2 ⟨j, rfl, hj0, hj1, hr2, hg2⟩
      obtain ⟨j, rfl⟩ := Int.eq_ofNat_of_zero_le hj0
      have hO2 := own_keptI HO.out hg2 hR1
      have hO2' : w2.ownsRow w1.heap.size 3 1 (.slice (some ⟨g, 0, none⟩) zs.length c9) zs.length (zs.map (Value.int .i64)) := by rw [hzl]; exact hO2
      have harg := (Ow.of_own hO2').arg (by omega) (Nat.le_refl _)
      have HJ2 := Lib.hid (HJ.out.kept hg2 (fun r e => by injection e with e; omega))
      have hz2 : w1.heap.size ≤ w2.heap.size := Nat.le_trans hzr hg2.size
      have Hz2 := Lib.hid hz2
      clear hz2
      have HG2 := Lib.hid (grown_then HG.out hg2)
      have Hr2 := Lib.hid hr2
      obtain ⟨X1, hX1⟩ : ∃ X, zs.take j = X := ⟨_, rfl⟩
      obtain ⟨X2, hX2⟩ : ∃ X, zs.drop j = X := ⟨_, rfl⟩
      have hx1 : X1.length = j := by rw [← hX1]; simp; omega
      have hx2 : X2.length = k - j := by rw [← hX2]; simp; omega
      have hA1 := harg.take j
      have hA2 := harg.dropK (by omega) j
      rw [hX1] at hA1
      rw [hX2] at hA2
      have HA1 := Lib.hid hA1
      have HA2 := Lib.hid hA2
      have g4 : (j : Int) ≤ (k : Int) := by omega
      have g5 : (j : Int) ≤ (c9 : Int) := by omega
      have g6 : j ≤ k := by omega
      have g7 : j ≤ c9 := by omega
      have g8 : (0 : Int) ≤ (j : Int) := by omega
      have g9 : (k : Int) ≤ (c9 : Int) := by omega
      clear hA1 hA2 hX1 hX2 harg hO2 hO2' hr2 hg2
      go_wp2_with (at_builtin; first
        | (refine wpList_append_ints rfl (.tmp 27) (.tmp 30) 24 rfl w2.heap.size 3 i0 (.int .i64 0) Tryd.underlying24 hi hz0 hz1 hz2 rfl (.slice (some ⟨w2.heap.size, 0, none⟩) 0 0) [] rfl (own_none w2 _) (some ⟨g, 0, none⟩) c9 X1 (by rw [hx1]; rfl) (HA1.out.go (below_none w2 _)) (by simp; omega) (by simp) ?_; intro v1 w3 hown3 hg3; have H3 := Lib.hid (next1 hown3 hg3); clear hown3 hg3)
        | (refine wpList_append_ints rfl (.tmp 32) (.tmp 34) 24 rfl w2.heap.size 3 i0 (.int .i64 0) Tryd.underlying24 hi hz0 hz1 hz2 rfl v1 X1 rfl (H3.out.1.alloc _) (some ⟨w3.heap.size, 0, none⟩) 1 [(k : Int)] rfl (arg_one w3 (k : Int) _) (by simp; omega) (by simp; have := H3.out.2.size; omega) ?_; intro v2 w4 hown4 hg4; have H4 := Lib.hid (And.intro hown4 ((H3.out.2.alloc H3.out.2.size _).grown hg4 (by simp; have := H3.out.2.size; omega) (fun q e => (H3.out.1.lt q e).1))); clear hown4 hg4)
        | (refine wpList_append_ints rfl (.tmp 36) (.tmp 39) 24 rfl w2.heap.size 3 i0 (.int .i64 0) Tryd.underlying24 hi hz0 hz1 hz2 rfl v2 (X1 ++ [(k : Int)]) rfl H4.out.1 (some ⟨g, 0 + (if c9 = j then 0 else j), none⟩) (c9 - j) X2 (by by_cases hcj : c9 = j <;> first | (simp [Act.eval, hx2, hcj]; done) | (exfalso; omega)) (HA2.out.go H4.out.2) (by simp; omega) H4.out.2.size ?_; intro v3 w5 hown5 hg5; have H5 := Lib.hid (And.intro hown5 (H4.out.2.grown hg5 H4.out.2.size (fun q e => (H4.out.1.lt q e).1))); clear hown5 hg5))
      have hll : (X1 ++ [(k : Int)] ++ X2).length = k + 1 := by simp; omega
      have ho5 := H5.out.1
      rw [hll] at ho5
      obtain ⟨g5', c5, rfl, _⟩ := own_ptrP ho5 (k := k) (by omega)
      have hown5 := OwnsRow.more ho5 (base' := w1.heap.size) Hz2.out
      have HO5 := Lib.hid hown5
      have HJ5 := Lib.hid (HJ2.out.below H5.out.2 Hz2.out)
      have HR5 := Lib.hid (Hr2.out.kept (grown_of_below H5.out.2 none) (by simp))
      have HG5 := Lib.hid (grown_belowW HG2.out H5.out.2)
      have Hll := Lib.hid hll
      clear ho5 hown5 hll
      go_wp2
      go_roundw
      case rel => exact ⟨k + 1, g5', c5, X1 ++ [(k : Int)] ++ X2, by omega, by go_num, Hll.out, rfl, HO5.out, HJ5.out, Nat.le_trans Hz2.out H5.out.2.size, HR5.out, HG5.out⟩
      case measure => simp [intOf]; omega
    obtain rfl : k = J.length := by omega
    have g1 : ¬ (J.length : Int) < (J.length : Int) := by omega
    by_cases hk0 : J.length = 0
    · have Hfin := Lib.hid (Hfn.out wr _ zs HO.out HJ.out hzr HG.out hzl)
      have g2 : decide ((0 : Int) < (J.length : Int)) = false := decide_eq_false (by omega)
      go_wp2
      go_ret3
      have h9 := Hfin.out
      rw [hk0] at h9
      exact h9
    obtain ⟨k1, hk1⟩ : ∃ k1, J.length = k1 + 1 := ⟨J.length - 1, by omega⟩
    have Hk1 := Lib.hid hk1
    clear hk1
    have g2 : (0 : Int) < (J.length : Int) := by omega
    go_wp2_with fail
    refine (pick_c R A n c (q + J.length) 16 _ Hrd.out (by omega) (by omega) (by omega)).mono ?_
    rintro e w3 ⟨x, rfl, hx0, hx1, hr3, hg3⟩
    have hJ3 := HJ.out.kept hg3 (fun r e => by injection e with e; omega)
    have hzr3 := Nat.le_trans hzr hg3.size
    have hO3 := own_keptI HO.out hg3 hR1
    have hG3 := grown_then HG.out hg3
    by_cases hx : x = 0
    case neg =>
      have g3 : (x == 0) = false := by simp [hx]
      have Hfin := Lib.hid (Hfn.out w3 _ zs hO3 hJ3 hzr3 hG3 hzl)
      clear hJ3 hO3 hG3 hr3 hg3
      go_wp2
      go_ret3
      exact Hfin.out
    subst hx
    obtain ⟨z, hz⟩ : ∃ z, zs[k1]? = some z := ⟨_, List.getElem?_eq_getElem (show k1 < zs.length by have := Hk1.out; omega)⟩
    have hzc := hO3.cellAt k1 (by have := Hk1.out; omega)
    rw [List.getElem?_map, hz] at hzc
    simp only [Option.map_some] at hzc
    have hz' : w3.cell? ⟨g, k1, none⟩ = some (.int .i64 z) := hzc
    have q5 : IntKind.i64.wrap ((J.length : Int) - 1) = (k1 : Int) := by rw [show (J.length : Int) - 1 = (k1 : Int) by have := Hk1.out; omega]; exact IntWalk.i64_in _ (by have := Hk1.out; omega)
    have g4 : (k1 : Int) < (J.length : Int) := by have := Hk1.out; omega
    have g5 : (0 : Int) ≤ (k1 : Int) := by omega
    obtain ⟨q2, hq2⟩ : ∃ q2, q + J.length + 1 = q2 := ⟨_, rfl⟩
    rw [hq2] at hr3
    have HJ3' := Lib.hid hJ3
    have HO3' := Lib.hid hO3
    have HG3' := Lib.hid hG3
    have HR3' := Lib.hid hr3
    have hgg := (hO3.lt g rfl).1
    have hgl := (hO3.lt g rfl).2
    clear hJ3 hO3 hG3 hr3 hg3 hzc hz
    go_wp2_with fail
    refine wp_region_held_drew (S := (fun _ => True)) (by kernel_rfl) trivial (fun hHeld => ?_)
    generalize hwd : w3.drew = wd
    have HR3 := Lib.hid (show Reader wd R A n c q2 from by rw [← hwd]; exact HR3'.out.drewN 1)
    have HO3 := Lib.hid (show wd.ownsRow w1.heap.size 3 1 (.slice (some ⟨g, 0, none⟩) J.length c9) J.length (zs.map (Value.int .i64)) from by rw [← hwd]; exact HO3'.out)
    have HJ3 := Lib.hid (show OwJ 38 w.heap.size w1.heap.size wd (.slice B J.length d) J from by rw [← hwd]; exact HJ3'.out)
    have HG3 := Lib.hid (show w.grownBy wd (some R) from by rw [← hwd]; exact grown_drew HG3'.out)
    have hz : wd.cell? ⟨g, k1, none⟩ = some (.int .i64 z) := by rw [← hwd]; exact hz'
    have hzd : w1.heap.size ≤ wd.heap.size := by rw [← hwd]; exact hzr3
    have hgd : g < wd.heap.size := by rw [← hwd]; exact hgl
    clear hwd hz' hgl hzr3
    refine wpAnyH_take (i := 0) (oi := { dst := some 49, op := _, type := _, pos := _, after := _, guard := _ }) (v := ?v0x1) rfl (by kernel_rfl) (by kernel_rfl) (by kernel_rfl) (fun _ _ _ h => h) (Or.inl ⟨by kernel_rfl, ?y0x1⟩) (by assumption) ?r0x1
    case y0x1 => intro w hSw; (try dsimp only at hSw); go_simp; try with_reducible rfl
    try simp only [Act.put, List.setIfInBounds_toArray, List.set_cons_zero, List.set_cons_succ]
    refine wpAnyH_take (i := 1) (oi := { dst := some 50, op := _, type := _, pos := _, after := _, guard := _ }) (v := ?v1x2) rfl (by kernel_rfl) (by kernel_rfl) (by kernel_rfl) (fun _ _ _ h => h) (Or.inl ⟨by kernel_rfl, ?y1x2⟩) (by assumption) ?r1x2
    case y1x2 => intro w hSw; (try dsimp only at hSw); go_simp; try with_reducible rfl
    try simp only [Act.put, List.setIfInBounds_toArray, List.set_cons_zero, List.set_cons_succ]
    refine wpAnyH_take (i := 2) (oi := { dst := some 51, op := _, type := _, pos := _, after := _, guard := _ }) (v := ?v2x3) rfl (by kernel_rfl) (by kernel_rfl) (by kernel_rfl) (fun _ _ _ h => h) (Or.inl ⟨by kernel_rfl, ?y2x3⟩) (by assumption) ?r2x3
    case y2x3 => intro w hSw; (try dsimp only at hSw); go_simp; try with_reducible rfl
    try simp only [Act.put, List.setIfInBounds_toArray, List.set_cons_zero, List.set_cons_succ]
    refine wpAnyH_take (i := 3) (oi := { dst := some 52, op := _, type := _, pos := _, after := _, guard := _ }) (v := ?v3x4) rfl (by kernel_rfl) (by kernel_rfl) (by kernel_rfl) (fun _ _ _ h => h) (Or.inl ⟨by kernel_rfl, ?y3x4⟩) (by assumption) ?r3x4
    case y3x4 => intro w hSw; (try dsimp only at hSw); go_simp; try with_reducible rfl
    try simp only [Act.put, List.setIfInBounds_toArray, List.set_cons_zero, List.set_cons_succ]
    refine wpAnyH_take (i := 4) (oi := { dst := some 53, op := _, type := _, pos := _, after := _, guard := _ }) (v := ?v4x5) rfl (by kernel_rfl) (by kernel_rfl) (by kernel_rfl) (fun _ _ _ h => h) (Or.inl ⟨by kernel_rfl, ?y4x5⟩) (by assumption) ?r4x5
    case y4x5 => intro w hSw; (try dsimp only at hSw); go_simp; try with_reducible rfl
    try simp only [Act.put, List.setIfInBounds_toArray, List.set_cons_zero, List.set_cons_succ]
    refine wpAnyH_take (i := 5) (oi := { dst := some 54, op := _, type := _, pos := _, after := _, guard := _ }) (v := ?v5x6) rfl (by kernel_rfl) (by kernel_rfl) (by kernel_rfl) (fun _ _ _ h => h) (Or.inl ⟨by kernel_rfl, ?y5x6⟩) (by assumption) ?r5x6
    case y5x6 => intro w hSw; (try dsimp only at hSw); go_simp; try with_reducible rfl
    try simp only [Act.put, List.setIfInBounds_toArray, List.set_cons_zero, List.set_cons_succ]
    refine wpAnyH_take (i := 6) (oi := { dst := some 55, op := _, type := _, pos := _, after := _, guard := _ }) (v := ?v6x7) rfl (by kernel_rfl) (by kernel_rfl) (by kernel_rfl) (fun _ _ _ h => h) (Or.inl ⟨by kernel_rfl, ?y6x7⟩) (by assumption) ?r6x7
    case y6x7 => intro w hSw; (try dsimp only at hSw); go_simp; try with_reducible rfl
    try simp only [Act.put, List.setIfInBounds_toArray, List.set_cons_zero, List.set_cons_succ]
    refine wpAnyH_take (i := 7) (oi := { dst := some 56, op := _, type := _, pos := _, after := _, guard := _ }) (v := ?v7x8) rfl (by kernel_rfl) (by kernel_rfl) (by kernel_rfl) (fun _ _ _ h => h) (Or.inl ⟨by kernel_rfl, ?y7x8⟩) (by assumption) ?r7x8
    case y7x8 => intro w hSw; (try dsimp only at hSw); go_simp; try with_reducible rfl
    try simp only [Act.put, List.setIfInBounds_toArray, List.set_cons_zero, List.set_cons_succ]
    refine wpAnyH_take (i := 10) (oi := { dst := some 59, op := _, type := _, pos := _, after := _, guard := _ }) (v := ?v10x9) rfl (by kernel_rfl) (by kernel_rfl) (by kernel_rfl) (fun _ _ _ h => h) (Or.inl ⟨by kernel_rfl, ?y10x9⟩) (by assumption) ?r10x9
    case y10x9 => intro w hSw; (try dsimp only at hSw); go_simp; try with_reducible rfl
    try simp only [Act.put, List.setIfInBounds_toArray, List.set_cons_zero, List.set_cons_succ]
    refine wpAnyH_ready (rs := [8, 11]) (by kernel_rfl) (by simp) ?_
    refine AllReadyH.cons (o := { dst := some 57, op := _, type := _, pos := _, after := _, guard := _ }) rfl (fun K hK => ?_) (AllReadyH.cons (o := { dst := some 60, op := _, type := _, pos := _, after := _, guard := _ }) rfl (fun K hK => ?_) AllReadyH.nil)
    · go_simp
      refine hK.out _ _ trivial (fun hHeld2 => ?_)
      clear hK K
      try simp only [Act.put, List.setIfInBounds_toArray, List.set_cons_zero, List.set_cons_succ]
      refine wpAnyH_ready (rs := [9, 11]) (by kernel_rfl) (by simp) ?_
      refine AllReadyH.cons (o := { dst := some 58, op := _, type := _, pos := _, after := _, guard := _ }) rfl (fun K hK => ?_) (AllReadyH.cons (o := { dst := some 60, op := _, type := _, pos := _, after := _, guard := _ }) rfl (fun K hK => ?_) AllReadyH.nil)
      · go_simp
        refine hK.out _ _ trivial (fun hHeld2 => ?_)
        clear hK K
        try simp only [Act.put, List.setIfInBounds_toArray, List.set_cons_zero, List.set_cons_succ]
        refine wpAnyH_ready (rs := [11]) (by kernel_rfl) (by simp) ?_
        refine AllReadyH.cons (o := { dst := some 60, op := _, type := _, pos := _, after := _, guard := _ }) rfl (fun K hK => ?_) AllReadyH.nil
        go_simp
        refine (pick_c R A n c q2 3 _ (HR3.out.kept (grown_alloc (World.grownBy.refl wd none) _) (by simp)) (by omega) (by omega) (by omega)).mono ?_
        rintro e w9 ⟨k9, rfl, k90, k91, hr9, hg9⟩
        obtain ⟨j9, rfl⟩ := Int.eq_ofNat_of_zero_le k90
        have hga : wd.grownBy w9 (some R) := grown_then (grown_alloc (World.grownBy.refl wd (some R)) _) hg9
        have hrow := (hg9.block wd.heap.size (by simp) (by simp; omega)).trans (heap_alloc_new wd _)
        have HO9 := own_keptI HO3.out hga hR1
        have HJ9 := HJ3.out.kept hga (fun r e => by injection e with e; omega)
        have HG9 := grown_then HG3.out hga
        have hz9s := Nat.le_trans hzd hga.size
        refine hK.out _ _ trivial (fun hHeld2 => ?_)
        clear hK K
        try simp only [Act.put, List.setIfInBounds_toArray, List.set_cons_zero, List.set_cons_succ]
        have h3 : j9 < 3 := by omega
        obtain ⟨y9, hy9⟩ : ∃ y : Int, w9.cell? ⟨wd.heap.size, j9, none⟩ = some (.int .i64 y) := by
          rcases (show j9 = 0 ∨ j9 = 1 ∨ j9 = 2 by omega) with rfl | rfl | rfl
          · exact ⟨_, cell_of_row _ _ 0 _ _ _ hrow⟩
          · exact ⟨_, cell_of_row _ _ 1 _ _ _ hrow⟩
          · exact ⟨_, cell_of_row _ _ 2 _ _ _ hrow⟩
        have g9 : (j9 : Int) < 3 := by omega
        clear hrow
        refine wpAnyH_take (i := 12) (oi := { dst := some 61, op := _, type := _, pos := _, after := _, guard := _ }) (v := ?v12x10) rfl (by kernel_rfl) (by kernel_rfl) (by kernel_rfl) (fun _ _ _ h => h) (Or.inl ⟨by kernel_rfl, ?y12x10⟩) (by assumption) ?r12x10
        case y12x10 => intro w hSw; (try dsimp only at hSw); go_simp; try with_reducible rfl
        try simp only [Act.put, List.setIfInBounds_toArray, List.set_cons_zero, List.set_cons_succ]
        refine wpAnyH_ready (rs := [13]) (by kernel_rfl) (by simp) ?_
        refine AllReadyH.cons (o := { dst := some 62, op := _, type := _, pos := _, after := _, guard := _ }) rfl (fun K hK => ?_) AllReadyH.nil
        go_simp
        refine hK.out _ _ trivial (fun hHeld2 => ?_)
        clear hK K
        try simp only [Act.put, List.setIfInBounds_toArray, List.set_cons_zero, List.set_cons_succ]
        refine wpAnyH_take (i := 14) (oi := { dst := some 63, op := _, type := _, pos := _, after := _, guard := _ }) (v := ?v14x11) rfl (by kernel_rfl) (by kernel_rfl) (by kernel_rfl) (fun _ _ _ h => h) (Or.inl ⟨by kernel_rfl, ?y14x11⟩) (by assumption) ?r14x11
        case y14x11 => intro w hSw; (try dsimp only at hSw); go_simp; try with_reducible rfl
        try simp only [Act.put, List.setIfInBounds_toArray, List.set_cons_zero, List.set_cons_succ]
        have hst := HO9.stored 0 (.int .i64 y9)
        rw [← List.map_set] at hst
        obtain ⟨u9, hu9⟩ : ∃ u, w9.cell? ⟨g, 0, none⟩ = some u := ⟨_, (HO9.cellAt 0 (by omega)).trans (List.getElem?_eq_getElem (by simp; omega))⟩
        have hf9 := HO9.frozenAt 0
        have Hst := Lib.hid hst
        clear hst
        refine wpAnyH_ready (rs := [15]) (by kernel_rfl) (by simp) ?_
        refine AllReadyH.cons (o := { dst := none, op := _, type := _, pos := _, after := _, guard := _ }) rfl (fun K hK => ?_) AllReadyH.nil
        go_simp
        refine hK.out _ _ trivial (fun hHeld2 => ?_)
        clear hK K
        try simp only [Act.put, List.setIfInBounds_toArray, List.set_cons_zero, List.set_cons_succ]
        refine wpAnyH_done (by kernel_rfl) ?_ _
        go_wp2
        go_ret3
        exact Hfn.out _ _ (zs.set 0 y9) Hst.out.1 (HJ9.kept Hst.out.2 (fun r e => by injection e with e; omega)) (Nat.le_trans hz9s Hst.out.2.size) (grown_new HG9 Hst.out.2 (fun r e => by injection e with e; have := Hw1.out; omega)) (by simp [hzl])
      · go_simp
        refine (pick_c R A n c q2 3 _ (HR3.out) (by omega) (by omega) (by omega)).mono ?_
        rintro e w9 ⟨k9, rfl, k90, k91, hr9, hg9⟩
        obtain ⟨j9, rfl⟩ := Int.eq_ofNat_of_zero_le k90
        have hga := hg9
        have HO9 := own_keptI HO3.out hga hR1
        have HJ9 := HJ3.out.kept hga (fun r e => by injection e with e; omega)
        have HG9 := grown_then HG3.out hga
        have hz9s := Nat.le_trans hzd hga.size
        refine hK.out _ _ trivial (fun hHeld2 => ?_)
        clear hK K
        try simp only [Act.put, List.setIfInBounds_toArray, List.set_cons_zero, List.set_cons_succ]
        refine wpAnyH_ready (rs := [9]) (by kernel_rfl) (by simp) ?_
        refine AllReadyH.cons (o := { dst := some 58, op := _, type := _, pos := _, after := _, guard := _ }) rfl (fun K hK => ?_) AllReadyH.nil
        go_simp
        refine hK.out _ _ trivial (fun hHeld2 => ?_)
        clear hK K
        try simp only [Act.put, List.setIfInBounds_toArray, List.set_cons_zero, List.set_cons_succ]
        have hrow := heap_alloc_new w9 (.cells #[.int .i64 (-1), .int .i64 (J.length : Int), .int .i64 z] 3)
        replace HO9 := HO9.alloc (.cells #[.int .i64 (-1), .int .i64 (J.length : Int), .int .i64 z] 3)
        replace HJ9 := HJ9.kept (grown_alloc (World.grownBy.refl w9 none) (.cells #[.int .i64 (-1), .int .i64 (J.length : Int), .int .i64 z] 3)) (by simp)
        replace HG9 := grown_alloc HG9 (.cells #[.int .i64 (-1), .int .i64 (J.length : Int), .int .i64 z] 3)
        replace hz9s : w1.heap.size ≤ (w9.alloc (.cells #[.int .i64 (-1), .int .i64 (J.length : Int), .int .i64 z] 3)).heap.size := by rw [World.size_alloc]; omega
        obtain ⟨wa, hwa⟩ : ∃ wa, w9.alloc (.cells #[.int .i64 (-1), .int .i64 (J.length : Int), .int .i64 z] 3) = wa := ⟨_, rfl⟩
        rw [hwa] at hrow HO9 HJ9 HG9 hz9s
        rw [hwa]
        clear hwa
        have h3 : j9 < 3 := by omega
        obtain ⟨y9, hy9⟩ : ∃ y : Int, wa.cell? ⟨w9.heap.size, j9, none⟩ = some (.int .i64 y) := by
          rcases (show j9 = 0 ∨ j9 = 1 ∨ j9 = 2 by omega) with rfl | rfl | rfl
          · exact ⟨_, cell_of_row _ _ 0 _ _ _ hrow⟩
          · exact ⟨_, cell_of_row _ _ 1 _ _ _ hrow⟩
          · exact ⟨_, cell_of_row _ _ 2 _ _ _ hrow⟩
        have g9 : (j9 : Int) < 3 := by omega
        clear hrow
        refine wpAnyH_take (i := 12) (oi := { dst := some 61, op := _, type := _, pos := _, after := _, guard := _ }) (v := ?v12x12) rfl (by kernel_rfl) (by kernel_rfl) (by kernel_rfl) (fun _ _ _ h => h) (Or.inl ⟨by kernel_rfl, ?y12x12⟩) (by assumption) ?r12x12
        case y12x12 => intro w hSw; (try dsimp only at hSw); go_simp; try with_reducible rfl
        try simp only [Act.put, List.setIfInBounds_toArray, List.set_cons_zero, List.set_cons_succ]
        refine wpAnyH_ready (rs := [13]) (by kernel_rfl) (by simp) ?_
        refine AllReadyH.cons (o := { dst := some 62, op := _, type := _, pos := _, after := _, guard := _ }) rfl (fun K hK => ?_) AllReadyH.nil
        go_simp
        refine hK.out _ _ trivial (fun hHeld2 => ?_)
        clear hK K
        try simp only [Act.put, List.setIfInBounds_toArray, List.set_cons_zero, List.set_cons_succ]
        refine wpAnyH_take (i := 14) (oi := { dst := some 63, op := _, type := _, pos := _, after := _, guard := _ }) (v := ?v14x13) rfl (by kernel_rfl) (by kernel_rfl) (by kernel_rfl) (fun _ _ _ h => h) (Or.inl ⟨by kernel_rfl, ?y14x13⟩) (by assumption) ?r14x13
        case y14x13 => intro w hSw; (try dsimp only at hSw); go_simp; try with_reducible rfl
        try simp only [Act.put, List.setIfInBounds_toArray, List.set_cons_zero, List.set_cons_succ]
        have hst := HO9.stored 0 (.int .i64 y9)
        rw [← List.map_set] at hst
        obtain ⟨u9, hu9⟩ : ∃ u, wa.cell? ⟨g, 0, none⟩ = some u := ⟨_, (HO9.cellAt 0 (by omega)).trans (List.getElem?_eq_getElem (by simp; omega))⟩
        have hf9 := HO9.frozenAt 0
        have Hst := Lib.hid hst
        clear hst
        refine wpAnyH_ready (rs := [15]) (by kernel_rfl) (by simp) ?_
        refine AllReadyH.cons (o := { dst := none, op := _, type := _, pos := _, after := _, guard := _ }) rfl (fun K hK => ?_) AllReadyH.nil
        go_simp
        refine hK.out _ _ trivial (fun hHeld2 => ?_)
        clear hK K
        try simp only [Act.put, List.setIfInBounds_toArray, List.set_cons_zero, List.set_cons_succ]
        refine wpAnyH_done (by kernel_rfl) ?_ _
        go_wp2
        go_ret3
        exact Hfn.out _ _ (zs.set 0 y9) Hst.out.1 (HJ9.kept Hst.out.2 (fun r e => by injection e with e; omega)) (Nat.le_trans hz9s Hst.out.2.size) (grown_new HG9 Hst.out.2 (fun r e => by injection e with e; have := Hw1.out; omega)) (by simp [hzl])
    · go_simp
      refine (pick_c R A n c q2 3 _ (HR3.out) (by omega) (by omega) (by omega)).mono ?_
      rintro e w9 ⟨k9, rfl, k90, k91, hr9, hg9⟩
      obtain ⟨j9, rfl⟩ := Int.eq_ofNat_of_zero_le k90
      have hga := hg9
      have HO9 := own_keptI HO3.out hga hR1
      have HJ9 := HJ3.out.kept hga (fun r e => by injection e with e; omega)
      have HG9 := grown_then HG3.out hga
      have hz9s := Nat.le_trans hzd hga.size
      have hz9 : w9.cell? ⟨g, k1, none⟩ = some (.int .i64 z) := (World.cell?_of_block (hg9.block g hgd (by simp; omega))).trans hz
      refine hK.out _ _ trivial (fun hHeld2 => ?_)
      clear hK K
      try simp only [Act.put, List.setIfInBounds_toArray, List.set_cons_zero, List.set_cons_succ]
      refine wpAnyH_ready (rs := [8]) (by kernel_rfl) (by simp) ?_
      refine AllReadyH.cons (o := { dst := some 57, op := _, type := _, pos := _, after := _, guard := _ }) rfl (fun K hK => ?_) AllReadyH.nil
      go_simp
      refine hK.out _ _ trivial (fun hHeld2 => ?_)
      clear hK K
      try simp only [Act.put, List.setIfInBounds_toArray, List.set_cons_zero, List.set_cons_succ]
      refine wpAnyH_ready (rs := [9]) (by kernel_rfl) (by simp) ?_
      refine AllReadyH.cons (o := { dst := some 58, op := _, type := _, pos := _, after := _, guard := _ }) rfl (fun K hK => ?_) AllReadyH.nil
      go_simp
      refine hK.out _ _ trivial (fun hHeld2 => ?_)
      clear hK K
      try simp only [Act.put, List.setIfInBounds_toArray, List.set_cons_zero, List.set_cons_succ]
      have hrow := heap_alloc_new w9 (.cells #[.int .i64 (-1), .int .i64 (J.length : Int), .int .i64 z] 3)
      replace HO9 := HO9.alloc (.cells #[.int .i64 (-1), .int .i64 (J.length : Int), .int .i64 z] 3)
      replace HJ9 := HJ9.kept (grown_alloc (World.grownBy.refl w9 none) (.cells #[.int .i64 (-1), .int .i64 (J.length : Int), .int .i64 z] 3)) (by simp)
      replace HG9 := grown_alloc HG9 (.cells #[.int .i64 (-1), .int .i64 (J.length : Int), .int .i64 z] 3)
      replace hz9s : w1.heap.size ≤ (w9.alloc (.cells #[.int .i64 (-1), .int .i64 (J.length : Int), .int .i64 z] 3)).heap.size := by rw [World.size_alloc]; omega
      obtain ⟨wa, hwa⟩ : ∃ wa, w9.alloc (.cells #[.int .i64 (-1), .int .i64 (J.length : Int), .int .i64 z] 3) = wa := ⟨_, rfl⟩
      rw [hwa] at hrow HO9 HJ9 HG9 hz9s
      rw [hwa]
      clear hwa
      have h3 : j9 < 3 := by omega
      obtain ⟨y9, hy9⟩ : ∃ y : Int, wa.cell? ⟨w9.heap.size, j9, none⟩ = some (.int .i64 y) := by
        rcases (show j9 = 0 ∨ j9 = 1 ∨ j9 = 2 by omega) with rfl | rfl | rfl
        · exact ⟨_, cell_of_row _ _ 0 _ _ _ hrow⟩
        · exact ⟨_, cell_of_row _ _ 1 _ _ _ hrow⟩
        · exact ⟨_, cell_of_row _ _ 2 _ _ _ hrow⟩
      have g9 : (j9 : Int) < 3 := by omega
      clear hrow
      refine wpAnyH_take (i := 12) (oi := { dst := some 61, op := _, type := _, pos := _, after := _, guard := _ }) (v := ?v12x14) rfl (by kernel_rfl) (by kernel_rfl) (by kernel_rfl) (fun _ _ _ h => h) (Or.inl ⟨by kernel_rfl, ?y12x14⟩) (by assumption) ?r12x14
      case y12x14 => intro w hSw; (try dsimp only at hSw); go_simp; try with_reducible rfl
      try simp only [Act.put, List.setIfInBounds_toArray, List.set_cons_zero, List.set_cons_succ]
      refine wpAnyH_ready (rs := [13]) (by kernel_rfl) (by simp) ?_
      refine AllReadyH.cons (o := { dst := some 62, op := _, type := _, pos := _, after := _, guard := _ }) rfl (fun K hK => ?_) AllReadyH.nil
      go_simp
      refine hK.out _ _ trivial (fun hHeld2 => ?_)
      clear hK K
      try simp only [Act.put, List.setIfInBounds_toArray, List.set_cons_zero, List.set_cons_succ]
      refine wpAnyH_take (i := 14) (oi := { dst := some 63, op := _, type := _, pos := _, after := _, guard := _ }) (v := ?v14x15) rfl (by kernel_rfl) (by kernel_rfl) (by kernel_rfl) (fun _ _ _ h => h) (Or.inl ⟨by kernel_rfl, ?y14x15⟩) (by assumption) ?r14x15
      case y14x15 => intro w hSw; (try dsimp only at hSw); go_simp; try with_reducible rfl
      try simp only [Act.put, List.setIfInBounds_toArray, List.set_cons_zero, List.set_cons_succ]
      have hst := HO9.stored 0 (.int .i64 y9)
      rw [← List.map_set] at hst
      obtain ⟨u9, hu9⟩ : ∃ u, wa.cell? ⟨g, 0, none⟩ = some u := ⟨_, (HO9.cellAt 0 (by omega)).trans (List.getElem?_eq_getElem (by simp; omega))⟩
      have hf9 := HO9.frozenAt 0
      have Hst := Lib.hid hst
      clear hst
      refine wpAnyH_ready (rs := [15]) (by kernel_rfl) (by simp) ?_
      refine AllReadyH.cons (o := { dst := none, op := _, type := _, pos := _, after := _, guard := _ }) rfl (fun K hK => ?_) AllReadyH.nil
      go_simp
      refine hK.out _ _ trivial (fun hHeld2 => ?_)
      clear hK K
      try simp only [Act.put, List.setIfInBounds_toArray, List.set_cons_zero, List.set_cons_succ]
      refine wpAnyH_done (by kernel_rfl) ?_ _
      go_wp2
      go_ret3
      exact Hfn.out _ _ (zs.set 0 y9) Hst.out.1 (HJ9.kept Hst.out.2 (fun r e => by injection e with e; omega)) (Nat.le_trans hz9s Hst.out.2.size) (grown_new HG9 Hst.out.2 (fun r e => by injection e with e; have := Hw1.out; omega)) (by simp [hzl])

end Go.Proofs.YtodboccadccpfaaDoor
