/-
  The drawn nets: DrawCutLeast, DrawNetTree, DrawCutOf.
-/
import Derived.Test.YtbnpglljloaclaaNdB
import Derived.Test.YtbnpglljloaclaaApI0
namespace Go.Proofs.Ytbnpglljloaclaa
open Go.RowKit

theorem draw_belowN {w a b : World} {R : Nat} (h : Below w.heap.size w a) (hR : w.heap.size ≤ R) (hg : a.grownBy b (some R)) : Below w.heap.size w b := h.grown hg h.size (fun r e => by cases e; exact hR)
/-- a net and two stations -/
def RetCl (w : World) (e : Ending) (w' : World) : Prop :=
  ∃ (m : Nat), ∃ B d zs, ∃ (f t : Int), e = .returned (.tuple #[.int .i64 (m : Int), .slice B (zs : List Lin).length d, .int .i64 f, .int .i64 t]) ∧ 2 ≤ m ∧ m ≤ 5 ∧ zs.length ≤ 7 ∧ (0 ≤ f ∧ f < (m : Int)) ∧ (-1 ≤ t ∧ t ≤ (m : Int)) ∧ ArgL w' B d zs ∧ Below w.heap.size w w'
set_option maxHeartbeats 2000000 in
theorem DrawCutLeast_c (A : Option Addr) (n c : Nat) (w : World) (hn : n ≤ 9223372036854775807) (hnc : n ≤ c) (hb : Bytes w.heap.size w A n) :
    Calls Try.prog 22 #[.slice A n c] w (RetCl w) := by
  have Hb := Lib.hid hb
  clear hb
  go_enter Try.func22, Try.ntmps22
  go_wp2_with fail
  refine (l6Open_c A n c _ hn hnc Hb.out).mono ?_
  rintro e w0 ⟨n1, c1, rfl, hr0, hb0, hs0⟩
  have H0 := Lib.hid hr0
  have HB0 := Lib.hid hb0
  obtain ⟨R, hR⟩ : ∃ R, w.heap.size = R := ⟨_, rfl⟩
  rw [hR] at H0 hs0
  have hRR : w.heap.size ≤ R := by omega
  clear hr0 hb0
  go_wp2_with fail
  refine (l92Two_c R A n1 c1 0 _ H0.out hs0 (by omega)).mono ?_
  rintro e w1 ⟨m, B, d, zs, f, t, q, rfl, hm2, hm5, hzl, hf, ht, ho1, hr1, hq, hg1⟩
  have Ha := Lib.hid (ho1.arg (by omega) (Nat.le_refl _))
  have HB1 := Lib.hid (draw_belowN HB0.out hRR hg1)
  clear ho1 hr1 hg1 hR
  go_wp2
  refine bodyPost_ret (v := .tuple #[.int .i64 (m : Int), .slice B zs.length d, .int .i64 f, .int .i64 t]) (by simp [results, Try.results22, go_sem]) rfl ?_
  exact ⟨m, B, d, zs, f, t, rfl, hm2, hm5, hzl, hf, ht, Ha.out, HB1.out⟩
/-- a net -/
def RetTr (w : World) (e : Ending) (w' : World) : Prop :=
  ∃ (m : Nat), ∃ B d zs, e = .returned (.tuple #[.int .i64 (m : Int), .slice B (zs : List Lin).length d]) ∧ 2 ≤ m ∧ m ≤ 5 ∧ zs.length ≤ 7 ∧ ArgL w' B d zs ∧ Below w.heap.size w w'
set_option maxHeartbeats 2000000 in
theorem DrawNetTree_c (A : Option Addr) (n c : Nat) (w : World) (hn : n ≤ 9223372036854775807) (hnc : n ≤ c) (hb : Bytes w.heap.size w A n) :
    Calls Try.prog 26 #[.slice A n c] w (RetTr w) := by
  have Hb := Lib.hid hb
  clear hb
  go_enter Try.func26, Try.ntmps26
  go_wp2_with fail
  refine (l6Open_c A n c _ hn hnc Hb.out).mono ?_
  rintro e w0 ⟨n1, c1, rfl, hr0, hb0, hs0⟩
  have H0 := Lib.hid hr0
  have HB0 := Lib.hid hb0
  obtain ⟨R, hR⟩ : ∃ R, w.heap.size = R := ⟨_, rfl⟩
  rw [hR] at H0 hs0
  have hRR : w.heap.size ≤ R := by omega
  clear hr0 hb0
  go_wp2_with fail
  refine (l92Net_c R A n1 c1 0 _ H0.out hs0 (by omega)).mono ?_
  rintro e w1 ⟨m, B, d, zs, q, rfl, hm2, hm5, hzl, ho1, hr1, hq, hg1⟩
  have Ha := Lib.hid (ho1.arg (by omega) (Nat.le_refl _))
  have HB1 := Lib.hid (draw_belowN HB0.out hRR hg1)
  clear ho1 hr1 hg1 hR
  go_wp2
  go_ret2
  exact ⟨m, B, d, zs, rfl, hm2, hm5, hzl, Ha.out, HB1.out⟩

/-- a net, two stations and a side -/
def RetCut (w : World) (e : Ending) (w' : World) : Prop :=
  ∃ (m : Nat), ∃ B d zs, ∃ (f t : Int), ∃ B2 d2 S, e = .returned (.tuple #[.int .i64 (m : Int), .slice B (zs : List Lin).length d, .int .i64 f, .int .i64 t, .slice B2 (S : List Int).length d2]) ∧ 2 ≤ m ∧ m ≤ 5 ∧ zs.length ≤ 7 ∧ (0 ≤ f ∧ f < (m : Int)) ∧ (-1 ≤ t ∧ t ≤ (m : Int)) ∧ S.length = m ∧ ArgL w' B d zs ∧ Arg w' B2 d2 S ∧ Below w.heap.size w w'
set_option maxRecDepth 100000 in
set_option maxHeartbeats 8000000 in
theorem DrawCutOf_c (A : Option Addr) (n c : Nat) (w : World) (hn : n ≤ 9223372036854775807) (hnc : n ≤ c) (hb : Bytes w.heap.size w A n) :
    Calls Try.prog 18 #[.slice A n c] w (RetCut w) := by
  obtain ⟨i0, hi, hz0, hz1, hz2⟩ := info_parts intInf
  have Hb := Lib.hid hb
  clear hb
  go_enter Try.func18, Try.ntmps18
  go_wp2_with fail
  refine (l6Open_c A n c _ hn hnc Hb.out).mono ?_
  rintro e w0 ⟨n1, c1, rfl, hr0, hb0, hs0⟩
  have H0 := Lib.hid hr0
  have HB0 := Lib.hid hb0
  obtain ⟨R, hR⟩ : ∃ R, w.heap.size = R := ⟨_, rfl⟩
  rw [hR] at H0 hs0 ⊢
  have hRR : w.heap.size ≤ R := by omega
  clear hr0 hb0 Hb
  go_wp2_with fail
  refine (l92Two_c R A n1 c1 0 _ H0.out hs0 (by omega)).mono ?_
  rintro e w1 ⟨m, B, d, zs, f, t, q, rfl, hm2, hm5, hzl, ⟨f0, f1⟩, ⟨t0, t1⟩, ho1, hr1, hq, hg1⟩
  have hs1 := hg1.size
  have HO1 := Lib.hid ho1
  have HR1 := Lib.hid (hr1.kept (World.grownBy_alloc w1 (.cells #[] 3) none) (by simp))
  have HG1 := Lib.hid (grown_alloc hg1 (.cells #[] 3))
  have HS1 := Lib.hid (ho1.kept (World.grownBy_alloc w1 (.cells #[] 3) none) (by simp))
  have hR1 : R < w1.heap.size := by omega
  clear ho1 hr1 hg1 hR H0 HO1
  go_wp2
  go_loopw [12, 13] (fun o i wr => ∃ (k : Nat) (v : Value) (S : List Int) (q2 : Nat), k ≤ m ∧ i = .int .i64 k ∧ v = o ∧ S.length = k ∧ wr.ownsRow w1.heap.size 3 1 v k (S.map (Value.int .i64)) ∧ Reader wr R A n1 c1 q2 ∧ q2 ≤ 200 + k ∧ OwL 29 w0.heap.size w1.heap.size wr (.slice B zs.length d) zs ∧ w0.grownBy wr (some R) ∧ w1.heap.size ≤ wr.heap.size) (fun _ i _ => m - (intOf i).toNat)
  case atStart => exact ⟨0, _, [], q, Nat.zero_le _, rfl, rfl, rfl, own_none w1 _, HR1.out, by omega, HS1.out, HG1.out, by simp⟩
  case round =>
    obtain ⟨k, v, S, q2, hk, rfl, rfl, hSl, hok, hrd, hq2, hzs, hgk, hwk⟩ := hrel
    have Hok := Lib.hid hok
    have Hrd := Lib.hid hrd
    have Hzs := Lib.hid hzs
    have Hgk := Lib.hid hgk
    obtain ⟨s1, s2⟩ : S.length ≤ k ∧ k ≤ S.length := by omega
    have HSl := Lib.hid hSl
    clear hok hrd hzs hgk hSl HR1 HG1 HS1
    by_cases hlt : k < m
    · have g1 : (k : Int) < (m : Int) := by omega
      go_wp2_with fail
      refine (pick_c R A n1 c1 q2 2 _ Hrd.out (by omega) (by omega) (by omega)).mono ?_
      rintro e w3 ⟨a3, rfl, a30, a31, hr3, hg3⟩
      have hsz3 := hg3.size
      have H3 := Lib.hid hr3
      have Hg3 := Lib.hid (grown_then Hgk.out hg3)
      have hok3 := own_keptR Hok.out hg3 hR1
      have Hz3 := Lib.hid (Hzs.out.kept hg3 (fun r e => by cases e; exact .inl hs0))
      clear hr3 hg3 Hrd Hgk Hok Hzs
      go_wp2_with (at_builtin; refine wpList_append_ints rfl (.tmp 29) (.tmp 32) 24 rfl w1.heap.size 3 i0 (.int .i64 0) Try.underlying24 hi hz0 hz1 hz2 rfl v S rfl (by rw [HSl.out]; exact hok3.alloc _) (some ⟨_, 0, none⟩) 1 [a3] rfl (arg_one _ a3 _) (by simp; omega) (by simp; omega) ?_; intro v' w5 hown5 hg5)
      have hgl := fun r e => (hok3.lt r e).1
      have hga : w3.grownBy w5 v.ownBlock := grown_then (World.grownBy_alloc w3 _ _) hg5
      have H5 := Lib.hid (H3.out.kept hga (fun r e => by have := hgl r e; omega))
      have Hg5 := Lib.hid (grown_new Hg3.out hga (fun r e => by have := hgl r e; omega))
      have Hz5 := Lib.hid (Hz3.out.kept hga (fun r e => .inr (hgl r e)))
      have Hown5 := Lib.hid (show w5.ownsRow w1.heap.size 3 1 v' (k + 1) ((S ++ [a3]).map (Value.int .i64)) by have h := hown5; rw [List.length_append, HSl.out] at h; exact h)
      have hs5 := hga.size
      clear hok3 hga hg5 hown5 hgl H3 Hg3 Hz3
      go_roundw
      case rel => exact ⟨k + 1, v', S ++ [a3], q2 + 1, by omega, by go_num, rfl, by simp [HSl.out], Hown5.out, H5.out, by omega, Hz5.out, Hg5.out, by omega⟩
      case measure => simp [intOf]; omega
    · obtain rfl : k = m := by omega
      obtain ⟨fn, rfl⟩ : ∃ fn : Nat, f = (fn : Int) := ⟨f.toNat, by omega⟩
      have hfm : fn < k := by omega
      have Hend := Lib.hid (show ∀ (W : World) (v2 : Value) (S2 : List Int), S2.length = k → W.ownsRow w1.heap.size 3 1 v2 k (S2.map (Value.int .i64)) → OwL 29 w0.heap.size w1.heap.size W (.slice B zs.length d) zs → w1.heap.size ≤ W.heap.size → Below w.heap.size w W → RetCut w (.returned (.tuple #[.int .i64 (k : Int), .slice B zs.length d, .int .i64 (fn : Int), .int .i64 t, v2])) W from fun W v2 S2 h1 h2 h3 h4 h5 => by
        have ho : Ow 3 w1.heap.size W.heap.size W v2 S2 := Ow.of_own (by rw [h1]; exact h2)
        obtain ⟨B2, d2, rfl, _, _, _⟩ := ho.form
        exact ⟨k, B, d, zs, (fn : Int), t, B2, d2, S2, rfl, hm2, hm5, hzl, ⟨f0, f1⟩, ⟨t0, t1⟩, h1, h3.arg (by omega) h4, ho.arg (by omega) (Nat.le_refl _), h5⟩)
      have HBk := Lib.hid (draw_belowN HB0.out hRR Hgk.out)
      by_cases ht0 : t < 0
      · have b0 : (decide (0 ≤ t)) = false := decide_eq_false (by omega)
        have b0' : ¬ 0 ≤ t := by omega
        have Hfin := Lib.hid (Hend.out wr _ S HSl.out Hok.out Hzs.out hwk HBk.out)
        clear Hend
        go_wp2
        exact bodyPost_ret (v := .tuple #[.int .i64 (k : Int), .slice B zs.length d, .int .i64 (fn : Int), .int .i64 t, _]) (by simp [results, Try.results18, go_sem]) rfl Hfin.out
      · obtain ⟨tn, rfl⟩ : ∃ tn : Nat, t = (tn : Int) := ⟨t.toNat, by omega⟩
        by_cases htm : tn < k
        · have g5 : (tn : Int) < (k : Int) := by omega
          go_wp2_with fail
          refine (pick_c R A n1 c1 q2 8 _ Hrd.out (by omega) (by omega) (by omega)).mono ?_
          rintro e w3 ⟨a3, rfl, a30, a31, hr3, hg3⟩
          have hsz3 := hg3.size
          have hok3 := own_keptR Hok.out hg3 hR1
          have Hz3 := Lib.hid (Hzs.out.kept hg3 (fun r e => by cases e; exact .inl hs0))
          have HBk3 := Lib.hid (draw_belowN HB0.out hRR (grown_then Hgk.out hg3))
          clear hr3 hg3 Hrd Hgk Hzs HBk
          by_cases h3 : 0 < a3
          · obtain ⟨g, cap, rfl, hcap⟩ := own_ptrR (k := k - 1) hok3 (by omega)
            have hgl := (hok3.lt g rfl).1
            have hst := hok3.stored fn (.int .i64 1)
            rw [← List.map_set] at hst
            have hst2 := hst.1.stored tn (.int .i64 0)
            rw [← List.map_set] at hst2
            obtain ⟨x1, hx1⟩ : ∃ x, w3.cell? ⟨g, fn, none⟩ = some x := ⟨_, (hok3.cellAt fn (by omega)).trans (List.getElem?_eq_getElem (by simp; omega))⟩
            obtain ⟨x2, hx2⟩ : ∃ x, (w3.setCell ⟨g, fn, none⟩ (.int .i64 1)).cell? ⟨g, tn, none⟩ = some x := ⟨_, (hst.1.cellAt tn (by omega)).trans (List.getElem?_eq_getElem (by simp; omega))⟩
            have hf1 := hok3.frozenAt fn
            have hf2 := hst.1.frozenAt tn
            have g6 : (fn : Int) < (k : Int) := by omega
            have hgg := grown_then hst.2 hst2.2
            have Hfin := Lib.hid (Hend.out ((w3.setCell ⟨g, fn, none⟩ (.int .i64 1)).setCell ⟨g, tn, none⟩ (.int .i64 0)) _ ((S.set fn 1).set tn 0) (by rw [List.length_set, List.length_set, HSl.out]) hst2.1 (Hz3.out.kept hgg (fun r e => by cases e; exact .inr hgl)) (by have := hgg.size; omega) (HBk3.out.grown hgg HBk3.out.size (fun r e => by cases e; have := HB0.out.size; omega)))
            clear Hend hst hst2 hok3 hgg
            go_wp2
            exact bodyPost_ret (v := .tuple #[.int .i64 (k : Int), .slice B zs.length d, .int .i64 (fn : Int), .int .i64 (tn : Int), .slice (some ⟨g, 0, none⟩) k cap]) (by simp [results, Try.results18, go_sem]) rfl Hfin.out
          · have Hfin := Lib.hid (Hend.out w3 _ S HSl.out hok3 Hz3.out (by omega) HBk3.out)
            clear Hend hok3
            go_wp2
            exact bodyPost_ret (v := .tuple #[.int .i64 (k : Int), .slice B zs.length d, .int .i64 (fn : Int), .int .i64 (tn : Int), _]) (by simp [results, Try.results18, go_sem]) rfl Hfin.out
        · have g5 : ¬ (tn : Int) < (k : Int) := by omega
          have Hfin := Lib.hid (Hend.out wr _ S HSl.out Hok.out Hzs.out hwk HBk.out)
          clear Hend
          go_wp2
          exact bodyPost_ret (v := .tuple #[.int .i64 (k : Int), .slice B zs.length d, .int .i64 (fn : Int), .int .i64 (tn : Int), _]) (by simp [results, Try.results18, go_sem]) rfl Hfin.out

end Go.Proofs.Ytbnpglljloaclaa
