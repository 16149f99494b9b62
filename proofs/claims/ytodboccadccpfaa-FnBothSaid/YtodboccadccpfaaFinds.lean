/-
  findFaults of the program: its callback, and the whole, for whatever test it is handed.
-/
import Derived.Test.YtodboccadccpfaaBreak
import Derived.Test.YtodboccadccpfaaFltM
import Derived.Test.YtodboccadccpfaaRatio
namespace Go.Proofs.Ytodboccadccpfaa
open Go.RowKit

theorem fltInfo : (Try.prog.info? 44).map (fun i => (i.zero, i.size, i.bytes)) = some (some (.agg #[.int .i64 0, .int .i64 0]), 2, 16) := by kernel_rfl

/-- what the callback's boxes hold; n: from where on the own row lies -/
structure FndAt (n : Nat) (W : World) (ba bc bl bf : Nat) (a : Int) (acc : Value) (all : Int) (zs : List Flt) (v : Value) : Prop where
  a : Boxed W ba 3 (.int .i64 a)
  c : Boxed W bc 94 acc
  l : Boxed W bl 3 (.int .i64 all)
  f : Boxed W bf 37 v
  own : W.ownsRow n 44 2 v zs.length (fltCells zs)
theorem FndAt.alloc {n : Nat} {W : World} {ba bc bl bf : Nat} {a all : Int} {acc v : Value} {zs : List Flt} (h : FndAt n W ba bc bl bf a acc all zs v) (o : Obj) : FndAt n (W.alloc o) ba bc bl bf a acc all zs v :=
  ⟨h.a.alloc _, h.c.alloc _, h.l.alloc _, h.f.alloc _, h.own.alloc _⟩
theorem FndAt.go {n : Nat} {W W' : World} {ba bc bl bf : Nat} {a all : Int} {acc v : Value} {zs : List Flt} (h : FndAt n W ba bc bl bf a acc all zs v) (hb : Below W.heap.size W W') : FndAt n W' ba bc bl bf a acc all zs v :=
  ⟨boxed_below h.a hb h.a.lt, boxed_below h.c hb h.c.lt, boxed_below h.l hb h.l.lt, boxed_below h.f hb h.f.lt, own_below h.own hb⟩
theorem KSec.grown {a W W' : World} (h : KSec a W) {n : Nat} {e : TypeId} {size k : Nat} {v : Value} {xs : List Value} (hr : W.ownsRow n e size v k xs) (he : e ≠ 129) (hg : W.grownBy W' v.ownBlock) : KSec a W' := fun D s hd => by
  have h1 := h D s hd
  refine (hg.block D (Array.getElem?_eq_some_iff.1 h1).1 ?_).trans h1
  intro e1
  rcases hr.2 with ⟨rfl, _⟩ | ⟨g, cap, cur, rfl, _, hgb, _⟩
  · simp [Value.ownBlock] at e1
  · obtain rfl : D = g := by simpa [Value.ownBlock] using e1
    unfold SecBlk at h1
    rw [hgb] at h1
    simp at h1
    exact he h1.2

set_option maxRecDepth 100000 in
set_option maxHeartbeats 2000000 in
theorem fnd_c (n : Nat) (ba bc bl bf g : Nat) (caps : Array Value) (a all : Int) (r : Nat → Int) (p : Nat → Bool) (k : Nat) (v : Value) (W : World) (hen : ∀ (args : Array Value) (w : World), (callFunc g args).run Try.prog w = .ok (.enter g args) w)
    (h : FndAt n W ba bc bl bf a (.func (.func g) #[] caps) all (fltL r a p k) v) (hd : ba ≠ bf ∧ bc ≠ bf ∧ bl ≠ bf) (hn : n ≤ W.heap.size) (hB : n ≤ bf) (hk : k ≤ 400)
    (ha : 0 ≤ a) (ha2 : a ≤ 9223372036854775807) (hr : 0 ≤ r k) (hr2 : r k ≤ 8000) (hall : 0 ≤ all) (hall2 : all ≤ 8000)
    (hacc : inB (a - r k) 0 1000 = true → Calls Try.prog g (#[.agg #[.int .i64 k, .int .i64 (a - r k)], .int .i64 (r k), .int .i64 (all - r k)] ++ caps) (W.alloc (.cells #[.int .i64 k, .int .i64 (a - r k)] 44)) (RetB (.bool (p k)) (W.alloc (.cells #[.int .i64 k, .int .i64 (a - r k)] 44)))) :
    Calls Try.prog 106 #[.int .i64 k, .int .i64 (r k), .pointer (some ⟨ba, 0, none⟩), .pointer (some ⟨bc, 0, none⟩), .pointer (some ⟨bl, 0, none⟩), .pointer (some ⟨bf, 0, none⟩)] W
      fun x W' => (∃ v, x = .returned v) ∧ (∃ v', FndAt n W' ba bc bl bf a (.func (.func g) #[] caps) all (fltL r a p (k + 1)) v') ∧ Below n W W' ∧ KSec W W' := by
  obtain ⟨i0, hi, hz0, hz1, hz2⟩ := info_parts fltInfo
  have hf1 := TwoAt.new 44 W k (a - r k)
  have h1 := h.alloc (.cells #[.int .i64 k, .int .i64 (a - r k)] 44)
  have hB1 : Below n W (W.alloc (.cells #[.int .i64 k, .int .i64 (a - r k)] 44)) := (Below.refl _ _).alloc hn _
  have hK1 : KSec W (W.alloc (.cells #[.int .i64 k, .int .i64 (a - r k)] 44)) := KSec.below ((Below.refl _ _).alloc (Nat.le_refl _) _)
  have q1 : IntKind.i64.wrap (a - r k) = a - r k := IntWalk.i64_in _ (by omega)
  have q2 : IntKind.i64.wrap (all - r k) = all - r k := IntWalk.i64_in _ (by omega)
  have ca := h.a.cell
  have cc := h1.c.cell
  have cl := h1.l.cell
  have hlen := fltL_length r a p k
  have H1 := Lib.hid h1
  have HF1 := Lib.hid hf1
  have HB1 := Lib.hid hB1
  have HK1 := Lib.hid hK1
  have Hd := Lib.hid hd
  clear h hf1 h1 hB1 hK1 hd
  cases hin : inB (a - r k) 0 1000
  · have Ho := Lib.hid (fltL_no (p := p) hin)
    have Hin := Lib.hid hin
    clear hin hacc
    go_enter Try.func106, Try.ntmps106
    go_wp2_with fail
    refine (inRange_c _ _ _ _).mono ?_
    rintro e w1 ⟨rfl, rfl⟩
    rw [Hin.out]
    go_wp2
    go_end0
    exact ⟨⟨_, rfl⟩, ⟨v, by rw [Ho.out]; exact H1.out⟩, HB1.out, HK1.out⟩
  have Hin := Lib.hid hin
  have Hacc := Lib.hid (hacc hin)
  cases hp : p k
  · have Ho := Lib.hid (fltL_not (r := r) (a := a) hp)
    have Hp := Lib.hid hp
    clear hin hacc hp
    go_enter Try.func106, Try.ntmps106
    go_wp2_with fail
    refine (inRange_c _ _ _ _).mono ?_
    rintro e w1 ⟨rfl, rfl⟩
    rw [Hin.out]
    go_wp2_with fail
    refine Hacc.out.mono ?_
    rintro e w2 ⟨rfl, hb2⟩
    rw [Hp.out]
    have Hb2 := Lib.hid hb2
    clear hb2
    go_wp2
    go_end0
    exact ⟨⟨_, rfl⟩, ⟨v, by rw [Ho.out]; exact H1.out.go Hb2.out⟩, HB1.out.trans (Hb2.out.mono (by simp; omega)), HK1.out.trans (KSec.below Hb2.out)⟩
  · have Ho := Lib.hid (fltL_yes hin hp)
    have Hp := Lib.hid hp
    clear hin hacc hp
    go_enter Try.func106, Try.ntmps106
    go_wp2_with fail
    refine (inRange_c _ _ _ _).mono ?_
    rintro e w1 ⟨rfl, rfl⟩
    rw [Hin.out]
    go_wp2_with fail
    refine Hacc.out.mono ?_
    rintro e w2 ⟨rfl, hb2⟩
    rw [Hp.out]
    have s2 := hb2.size
    simp only [World.size_alloc] at s2
    have h2 := H1.out.go hb2
    have hf2 := HF1.out.below hb2 (by simp)
    have e0 := hf2.c0
    have e1 := hf2.c1
    have cf := h2.f.cell
    have hown := h2.own
    have H2 := Lib.hid h2
    have Hb2 := Lib.hid hb2
    clear hb2 h2 hf2
    go_wp2_with (at_builtin; refine wpList_append_own _ rfl _ _ 37 rfl n 44 i0 _ 2 16 Try.underlying37 hi hz0 hz1 hz2 rfl (by decide) v _ _ rfl (hown.alloc _) ⟨w2.heap.size, 0, none⟩ 1 1 (fltCell ⟨k, a - r k⟩) rfl rfl (fltCell_new w2 ⟨k, a - r k⟩ _) (fltCell_one _) (by unfold maxLen; omega) (by omega) (by simp; omega) ?_; intro v' w9 hown' hgrow _; obtain ⟨g', cap', rfl⟩ := ownsRow_succ hown'; obtain ⟨hv1, hv2, hr2, hk2, hb9⟩ := H2.out.f.appended (by decide) H2.out.own (by omega) hB hown' hgrow; have hc1 := hv1.cell; have hc2 := hv1.frozen; have H9 := Lib.hid (And.intro hown' hgrow); have HV := Lib.hid (And.intro hv1 (And.intro hv2 (And.intro hr2 hb9))); clear hown' hgrow hv1 hv2 hr2 hk2 hb9)
    have hd := Hd.out
    have hnr := fun (b : Nat) (t : TypeId) (u : Value) (ht : t ≠ 44) (hb : Boxed w2 b t u) (hne : b ≠ bf) => boxed_far (((hb.alloc _).kept H9.out.2 (hb.not_row ht H2.out.own))) hne (.slice (some ⟨g', 0, none⟩) ((fltL r a p k).length + 1) cap')
    refine bodyPost_end (results_none rfl _ _ _) rfl ⟨⟨_, rfl⟩, ⟨_, ⟨hnr _ _ _ (by decide) H2.out.a hd.1, hnr _ _ _ (by decide) H2.out.c hd.2.1, hnr _ _ _ (by decide) H2.out.l hd.2.2, HV.out.2.1, ?_⟩⟩, ?_, ?_⟩
    · rw [Ho.out, List.length_append, fltCells_snoc]
      exact HV.out.2.2.1
    · exact (HB1.out.trans (Hb2.out.mono (by simp; omega))).trans HV.out.2.2.2
    · exact (((HK1.out.trans (KSec.below Hb2.out)).trans (KSec.below ((Below.refl _ _).alloc (Nat.le_refl _) _))).grown (H2.out.own.alloc _) (by decide) H9.out.2).set HV.out.1 _

/-- a cable, and a number that can be measured -/
def cab0 (ss : List Sec) (a : Int) : Bool := cabB ss && decide (0 ≤ a)
theorem cab0_true {ss : List Sec} {a : Int} (h : cab0 ss a = true) : cabB ss = true ∧ 0 ≤ a := by simpa [cab0] using h
/-- what findFaults hands back -/
def findsL (ss : List Sec) (a : Int) (p : Nat → Bool) : List Flt := if cab0 ss a then fltL (rN ss) a p (mN ss + 1) else []
theorem findsL_no {ss : List Sec} {a : Int} (p : Nat → Bool) (h : cab0 ss a = false) : findsL ss a p = [] := by unfold findsL; rw [h]; rfl
theorem findsL_yes {ss : List Sec} {a : Int} (p : Nat → Bool) (h : cab0 ss a = true) : findsL ss a p = fltL (rN ss) a p (mN ss + 1) := by unfold findsL; rw [h]; rfl

set_option maxRecDepth 100000 in
set_option maxHeartbeats 1000000 in
theorem findFaults_b (g : Nat) (caps : Array Value) (p : Nat → Bool) (A : Option Addr) (c : Nat) (ss : List Sec) (a : Int) (w : World) (hen : ∀ (args : Array Value) (w : World), (callFunc g args).run Try.prog w = .ok (.enter g args) w) (ha : ArgC w A c ss) (ha2 : a ≤ 9223372036854775807)
    (hacc : cab0 ss a = true → ∀ k W, k ≤ mN ss → inB (a - rN ss k) 0 1000 = true → Below w.heap.size w W → Calls Try.prog g (#[.agg #[.int .i64 k, .int .i64 (a - rN ss k)], .int .i64 (rN ss k), .int .i64 (ohmsL ss - rN ss k)] ++ caps) W (RetB (.bool (p k)) W)) :
    Calls Try.prog 62 #[.slice A ss.length c, .int .i64 a, .func (.func g) #[] caps] w (RetF 44 (fun v => .tuple #[v, .bool (cab0 ss a)]) (findsL ss a p) w) := by
  obtain ⟨w0, hw0⟩ : ∃ w0, (w.alloc (.cells #[.int .i64 a] 3)).alloc (.cells #[.func (.func g) #[] caps] 94) = w0 := ⟨_, rfl⟩
  have hm : Boxed w0 w.heap.size 3 (.int .i64 a) := by rw [← hw0]; exact (Boxed.new w _ _).alloc _
  have he : Boxed w0 (w.heap.size + 1) 94 (.func (.func g) #[] caps) := by
    have := Boxed.new (w.alloc (.cells #[.int .i64 a] 3)) 94 (.func (.func g) #[] caps)
    rw [hw0] at this
    simpa using this
  have hB : Below w.heap.size w w0 := by rw [← hw0]; exact ((Below.refl _ _).alloc (Nat.le_refl _) _).alloc (by simp) _
  have hs : w0.heap.size = w.heap.size + 2 := by rw [← hw0]; simp
  have HA := Lib.hid ha
  have Hm := Lib.hid hm
  have He := Lib.hid he
  have HB := Lib.hid hB
  have Hw0 := Lib.hid hw0
  have Hen := Lib.hid hen
  have Hacc := Lib.hid hacc
  clear ha hm he hB hw0 hen hacc
  cases h0 : cab0 ss a
  · have Hv := Lib.hid (findsL_no p h0)
    have H0 := Lib.hid h0
    cases hc : cabB ss
    · have Hc := Lib.hid hc
      clear hc h0
      go_enter Try.func62, Try.ntmps62
      go_wp2_with fail
      rw [Hw0.out]
      refine (implCableValid_c A c ss _ (HA.out.go HB.out)).mono ?_
      rintro e9 w1 ⟨rfl, hb1⟩
      rw [Hc.out]
      have Hb1 := Lib.hid (below_step HB.out hb1)
      clear hb1
      go_wp2
      go_ret2
      rw [Hv.out]
      exact RetF.nil (f := fun v => .tuple #[v, .bool false]) Hb1.out
    · have ha0 : a < 0 := by
        unfold cab0 at h0
        rw [hc] at h0
        simpa using h0
      have Hc := Lib.hid hc
      clear hc h0
      go_enter Try.func62, Try.ntmps62
      go_wp2_with fail
      rw [Hw0.out]
      refine (implCableValid_c A c ss _ (HA.out.go HB.out)).mono ?_
      rintro e9 w1 ⟨rfl, hb1⟩
      rw [Hc.out]
      have cm := (boxed_below Hm.out hb1 (by omega)).cell
      have Hb1 := Lib.hid (below_step HB.out hb1)
      clear hb1
      go_wp2
      go_ret2
      rw [Hv.out]
      exact RetF.nil (f := fun v => .tuple #[v, .bool false]) Hb1.out
  · have Hv := Lib.hid (findsL_yes p h0)
    have H0 := Lib.hid h0
    obtain ⟨hc, ha0⟩ := cab0_true h0
    have Hc := Lib.hid hc
    have Hall := Lib.hid (allI_yes hc)
    have hall := cab_ohms hc
    obtain ⟨all, hal⟩ : ∃ all, ohmsL ss = all := ⟨_, rfl⟩
    rw [hal] at hall Hall
    have Hal := Lib.hid hal
    have h400 := (mN_bd hc 0).2.1
    clear hc h0 hal
    go_enter Try.func62, Try.ntmps62
    go_wp2_with fail
    rw [Hw0.out]
    refine (implCableValid_c A c ss _ (HA.out.go HB.out)).mono ?_
    rintro e9 w1 ⟨rfl, hb1⟩
    rw [Hc.out]
    have s1 := hb1.size
    have hm1 := boxed_below Hm.out hb1 (by omega)
    have cm := hm1.cell
    have Hm1 := Lib.hid hm1
    have He1 := Lib.hid (boxed_below He.out hb1 (by omega))
    have Hb1 := Lib.hid (below_step HB.out hb1)
    clear hb1 hm1
    go_wp2_with fail
    refine (implCableAll_b A c ss _ (HA.out.go Hb1.out)).mono ?_
    rintro e9 w2 ⟨rfl, hb2⟩
    rw [Hall.out]
    have s2 := hb2.size
    have Hm2 := Lib.hid (boxed_below Hm1.out hb2 (by omega))
    have He2 := Lib.hid (boxed_below He1.out hb2 (by omega))
    have Hb2 := Lib.hid (below_step Hb1.out hb2)
    clear hb2
    obtain ⟨w3, hw3⟩ : ∃ w3, (w2.alloc (.cells #[.int .i64 all] 3)).alloc (.cells #[.slice none 0 0] 37) = w3 := ⟨_, rfl⟩
    have hb3 : Below w.heap.size w w3 := by rw [← hw3]; exact (Hb2.out.alloc (by omega) _).alloc (by simp; omega) _
    have hat : FndAt w.heap.size w3 w.heap.size (w.heap.size + 1) w2.heap.size (w2.heap.size + 1) a (.func (.func g) #[] caps) all (fltL (rN ss) a p 0) (.slice none 0 0) := by
      rw [← hw3, fltL_zero]
      refine ⟨(Hm2.out.alloc _).alloc _, (He2.out.alloc _).alloc _, (Boxed.new w2 _ _).alloc _, ?_, World.ownsRow_nil _ _ _ _⟩
      have := Boxed.new (w2.alloc (.cells #[.int .i64 all] 3)) 37 (.slice none 0 0)
      simp only [World.size_alloc] at this
      exact this
    have ha3 : HeldC 0 w.heap.size w3 A c ss := HA.out.held.go hb3
    have Hat := Lib.hid hat
    have Ha3 := Lib.hid ha3
    have Hb3 := Lib.hid hb3
    have Hw3 := Lib.hid hw3
    clear hw3 hb3 hat ha3
    go_wp2_with fail
    rw [Hw3.out]
    refine (eachMile_c (fun k W => Below w.heap.size w3 W ∧ ∃ v, FndAt w.heap.size W w.heap.size (w.heap.size + 1) w2.heap.size (w2.heap.size + 1) a (.func (.func g) #[] caps) all (fltL (rN ss) a p k) v) 106 #[.pointer (some ⟨w.heap.size, 0, none⟩), .pointer (some ⟨w.heap.size + 1, 0, none⟩), .pointer (some ⟨w2.heap.size, 0, none⟩), .pointer (some ⟨w2.heap.size + 1, 0, none⟩)] A c ss w3 w.heap.size
      (fun args w => enters_of Try.func106 (by kernel_rfl) rfl args w) Hc.out Ha3.out (fun _ _ h => h.1) (fun _ _ _ h => ⟨h.1.alloc (by have h5 := h.1.size; have h6 := Hb3.out.size; omega) _, h.2.imp fun _ h => h.alloc _⟩) ⟨Below.refl _ _, _, Hat.out⟩ ?_).mono ?_
    · rintro k W hk ⟨h1, v, h2⟩
      have hr := rN_bd Hc.out k
      have h5 := h1.size
      have h6 := Hb3.out.size
      simp only [List.append_toArray, List.cons_append, List.nil_append]
      refine (fnd_c w.heap.size _ _ _ _ g caps a all (rN ss) p k v W Hen.out h2 (by omega) (by omega) (by omega) (by omega) ha0 ha2 hr.1 hr.2 hall.1 hall.2 ?_).mono ?_
      · intro hin
        have h7 := Hacc.out H0.out k (W.alloc (.cells #[.int .i64 k, .int .i64 (a - rN ss k)] 44)) hk hin ((Hb3.out.trans h1).alloc (by omega) _)
        rw [Hal.out] at h7
        exact h7
      · rintro x W' ⟨hx, h3, h4, h5⟩
        exact ⟨hx, ⟨h1.trans h4, h3⟩, h5⟩
    rintro e9 w4 ⟨⟨v, rfl⟩, hb4, u, h4⟩
    have cf := h4.f.cell
    have Hb4 := Lib.hid (Hb3.out.trans hb4)
    have Hown := Lib.hid h4.own
    have hln := fltL_length (rN ss) a p (mN ss + 1)
    clear hb4 h4
    go_wp2
    go_ret2
    rw [Hv.out]
    exact RetF.mk (f := fun v => .tuple #[v, .bool true]) (by omega) Hown.out Hb4.out

end Go.Proofs.Ytodboccadccpfaa
