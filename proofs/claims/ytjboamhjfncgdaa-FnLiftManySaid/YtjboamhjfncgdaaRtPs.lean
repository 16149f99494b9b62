/-
  LiftMany of the model.
-/
import Derived.Test.YtjboamhjfncgdaaRtGs
import Derived.Test.YtjboamhjfncgdaaRtN
namespace Go.Proofs.Ytjboamhjfncgdaa
open Go.RowKit

theorem ctx_next1 {w w3 : World} {t : TypeId} {v1 : Value} {r : List Int} (hown : w3.ownsRow w.heap.size t 1 v1 ([] ++ r).length (([] ++ r).map (Value.int .i64))) (hg : (w.alloc (.cells #[] t)).grownBy w3 (Value.ownBlock (.slice (some ⟨w.heap.size, 0, none⟩) 0 0))) :
    w3.ownsRow w.heap.size t 1 v1 r.length (r.map (Value.int .i64)) ∧ Below w.heap.size w w3 := by
  rw [List.nil_append] at hown
  exact ⟨hown, (below_none w t).grown hg (by simp) (fun k e => by simp [Value.ownBlock] at e; omega)⟩

set_option maxRecDepth 100000 in
set_option maxHeartbeats 4000000 in
theorem l9Many_c (A : Option Addr) (c : Nat) (ss : List Rot) (hch : chartB ss = true) : ∀ (f : Nat) (L : List Int) (B : Option Addr) (d : Nat) (w : World), L.length + f = ss.length → ArgK w A c ss → Arg w B d L →
    Calls Try.prog 95 #[.slice A ss.length c, .slice B L.length d] w (RetB (.int .i64 (mS ss f (leftN ss L) : Nat)) w) := by
  intro f
  induction f with
  | zero =>
    intro L B d w hf _ _
    have g1 : ((L.length : Int) == (ss.length : Int)) = true := by rw [beq_iff_eq]; omega
    have g2 : ((L.length : Int) = (ss.length : Int)) = True := eq_true (by omega)
    clear hch hf
    go_enter Try.func95, Try.ntmps95
    go_wp2
    go_ret
    exact ⟨rfl, Below.refl _ _⟩
  | succ f ih =>
    intro L B d w hf ha hb
    obtain ⟨i0, hi, hz0, hz1, hz2⟩ := info_parts intInf
    have h8 := chart_len hch
    have HA := Lib.hid ha
    have HB := Lib.hid hb
    have Hch := Lib.hid hch
    have Ih := Lib.hid (fun (k : Nat) B d w ha hb => ih (L ++ [(k : Int)]) B d w (by rw [List.length_append, List.length_singleton]; omega) ha hb)
    have HFr := Lib.hid (fun W (j : Nat) (hj : j < ss.length) ha hb => l9Free_c A c ss B d L j W Hch.out hj ha hb)
    have Hok := Lib.hid (fun (j : Nat) (hj : j < ss.length) => okS_free (R := ss) (L := L) hj)
    have Hone := Lib.hid (fun j : Nat => left_one ss L j)
    have Hms := Lib.hid (mS_succ ss f (leftN ss L))
    have hf8 : 8 ^ f ≤ 16777216 := pow8 (by omega)
    have Hle := Lib.hid (fun (m : Nat) (hm : m ≤ ss.length) => Nat.le_trans (mSto_le h8 f (leftN ss L) hm) (show 8 * 8 ^ f ≤ 134217728 by omega))
    have g0 : ((L.length : Int) == (ss.length : Int)) = false := by rw [beq_eq_false_iff_ne]; omega
    have g0' : ((L.length : Int) = (ss.length : Int)) = False := eq_false (by omega)
    have hL8 : L.length ≤ 8 := by omega
    clear ha hb hch ih hf hf8
    obtain ⟨K, hK⟩ : ∃ K, leftN ss L = K := ⟨_, rfl⟩
    simp only [hK] at Hok Hone Hms Hle ⊢
    clear hK
    go_enter Try.func95, Try.ntmps95
    go_wp2
    clear g0 g0'
    go_loopw [5, 6] (fun x i wr => ∃ m : Nat, m ≤ ss.length ∧ i = .int .i64 m ∧ x = .int .i64 (mSto ss f K m : Nat) ∧ Below w.heap.size w wr) (fun _ i _ => ss.length - (intOf i).toNat)
    case atStart => exact ⟨0, Nat.zero_le _, rfl, rfl, Below.refl _ _⟩
    case round =>
      obtain ⟨m, hm, rfl, rfl, hb⟩ := hrel
      have Hb := Lib.hid hb
      clear hb
      by_cases hlt : m < ss.length
      · have g1 : (m : Int) < (ss.length : Int) := by omega
        have hok := Hok.out m hlt
        have hy := fun h => mSto_yes (R := ss) (f := f) (l := K) (m := m) h
        have hn := fun h => mSto_no (R := ss) (f := f) (l := K) (m := m) h
        rw [hok, Hone.out m] at hy
        rw [hok] at hn
        have hb1 := Hle.out (m + 1) (by omega)
        have HRec := Lib.hid (Ih.out m)
        obtain ⟨X, hX⟩ : ∃ X, mSto ss f K m = X := ⟨_, rfl⟩
        obtain ⟨Y, hY⟩ : ∃ Y, mSto ss f K (m + 1) = Y := ⟨_, rfl⟩
        obtain ⟨Z, hZ⟩ : ∃ Z, mS ss f (leftN ss (L ++ [(m : Int)])) = Z := ⟨_, rfl⟩
        rw [hX, hY, hZ] at hy
        rw [hX, hY] at hn
        rw [hY] at hb1
        rw [hZ] at HRec
        simp only [hX]
        have HY := Lib.hid hY
        have Hy := Lib.hid hy
        have Hn := Lib.hid hn
        clear hX hY hZ hy hn hok
        go_wp2_with fail
        refine (HFr.out _ m hlt (HA.out.go Hb.out) (HB.out.go Hb.out)).mono ?_
        rintro e w4 ⟨rfl, hb4⟩
        have Hb4 := Lib.hid (below_step Hb.out hb4)
        have hs4 := Hb4.out.size
        clear hb4
        cases hfb : freeB ss L m
        · have hz := Hn.out hfb
          clear hfb
          go_wp2
          go_roundw
          case rel => exact ⟨m + 1, by omega, by go_num, by rw [HY.out, hz], Hb4.out⟩
          case measure => simp [intOf]; omega
        · have hz := Hy.out hfb
          have q1 : IntKind.i64.wrap ((X : Int) + (Z : Int)) = ((X + Z : Nat) : Int) := by rw [IntWalk.i64_in _ (by omega)]; omega
          have HZ := Lib.hid hz
          have HB4 := Lib.hid (HB.out.go Hb4.out)
          clear hfb hz
          go_wp2_with (at_builtin; first
            | (refine wpList_append_ints rfl (.tmp 24) (.tmp 25) 25 rfl w4.heap.size 3 i0 (.int .i64 0) Try.underlying25 hi hz0 hz1 hz2 rfl (.slice (some ⟨w4.heap.size, 0, none⟩) 0 0) [] rfl (own_none w4 _) B d L rfl (HB4.out.go (below_none w4 _)) (by simp; omega) (by simp) ?_; intro v1 w5 hown5 hg5; have H5 := Lib.hid (ctx_next1 hown5 hg5); clear hown5 hg5)
            | (refine wpList_append_ints rfl (.tmp 26) (.tmp 28) 25 rfl w4.heap.size 3 i0 (.int .i64 0) Try.underlying25 hi hz0 hz1 hz2 rfl v1 L rfl (H5.out.1.alloc _) (some ⟨w5.heap.size, 0, none⟩) 1 [(m : Int)] rfl (arg_one w5 (m : Int) _) (by simp only [List.length_singleton]; omega) (by have := H5.out.2.size; simp; omega) ?_; intro v2 w6 hown6 hg6; have H6 := Lib.hid (And.intro hown6 ((H5.out.2.alloc H5.out.2.size _).grown hg6 (by have := H5.out.2.size; simp; omega) (fun r e => (H5.out.1.lt r e).1))); clear hown6 hg6))
          have ho6 : Ow 3 w4.heap.size w6.heap.size w6 v2 (L ++ [(m : Int)]) := Ow.of_own H6.out.1
          obtain ⟨B6, d6, rfl, _, _, _⟩ := ho6.form
          have Hr := Lib.hid (HRec.out B6 d6 w6 (HA.out.go (below_step Hb4.out H6.out.2)) (ho6.arg (by simp only [List.length_append, List.length_singleton]; omega) (Nat.le_refl _)))
          have Hb6 := Lib.hid (below_step Hb4.out H6.out.2)
          clear ho6
          go_wp2_with fail
          refine Hr.out.mono ?_
          rintro e w7 ⟨rfl, hb7⟩
          have Hb7 := Lib.hid (below_step Hb6.out hb7)
          clear hb7 Hr
          go_wp2
          go_roundw
          case rel => exact ⟨m + 1, by omega, by go_num, by rw [HY.out, HZ.out, Int.natCast_add], Hb7.out⟩
          case measure => simp [intOf]; omega
      · obtain rfl : m = ss.length := by omega
        go_wp2
        go_ret
        exact ⟨by rw [Hms.out]; rfl, Hb.out⟩

set_option maxRecDepth 100000 in
set_option maxHeartbeats 2000000 in
theorem specLiftMany_b (A : Option Addr) (c : Nat) (ss : List Rot) (w : World) (ha : ArgK w A c ss) :
    Calls Try.prog 53 #[.slice A ss.length c] w (RetB (.int .i64 (manyV ss)) w) := by
  have HA := Lib.hid ha
  clear ha
  go_enter Try.func53, Try.ntmps53
  go_wp2_with fail
  refine (specChartValid_b _ _ _ _ HA.out).mono ?_
  rintro e w1 ⟨rfl, hb⟩
  have Hb1 := Lib.hid hb
  clear hb
  cases e1 : chartB ss
  · have Hv := Lib.hid (manyV_no e1)
    clear e1
    go_wp2
    go_ret
    exact ⟨by rw [Hv.out] <;> rfl, Hb1.out⟩
  have hv := manyV_yes e1
  rw [← leftN_nil'] at hv
  have Hv := Lib.hid hv
  have Hb2 := Lib.hid (Hb1.out.alloc Hb1.out.size (.cells #[] 3))
  have HM := Lib.hid (l9Many_c A c ss e1 ss.length [] (some ⟨w1.heap.size, 0, none⟩) 0 (w1.alloc (.cells #[] 3)) (by simp) (HA.out.go Hb2.out) ⟨by simp, by simp, by simp, Rd.nil⟩)
  rw [show ([] : List Int).length = 0 from rfl] at HM
  clear e1 hv
  go_wp2_with fail
  refine HM.out.mono ?_
  rintro e w2 ⟨rfl, hb2⟩
  have Hb3 := Lib.hid (below_step Hb2.out hb2)
  clear hb2 HM
  go_wp2
  go_ret
  exact ⟨by rw [Hv.out] <;> rfl, Hb3.out⟩

end Go.Proofs.Ytjboamhjfncgdaa
