/-
  LoadValid and LoadTraffic of the model.
-/
import Derived.Test.YtbnpglljloaclaaTfO
namespace Go.Proofs.Ytbnpglljloaclaa
open Go.RowKit

/-- a station is as a load wants it -/
def kpOk (N : List Lin) (f t : Int) (L : List Int) (k : Int) : Prop := (k ≠ f → k ≠ t → outV N L k = 0) ∧ (k = f → 0 ≤ outV N L k)
def kpTo (N : List Lin) (f t : Int) (L : List Int) (k : Nat) : Prop := ∀ i : Nat, i < k → kpOk N f t L (i : Int)
theorem kpTo_zero (N : List Lin) (f t : Int) (L : List Int) : kpTo N f t L 0 := fun i h => by omega
theorem kpTo_succ {N : List Lin} {f t : Int} {L : List Int} {k : Nat} (h : kpTo N f t L k) (hk : kpOk N f t L (k : Int)) : kpTo N f t L (k + 1) := fun i hi => by
  rcases (by omega : i < k ∨ i = k) with h1 | rfl
  · exact h i h1
  · exact hk
theorem kpTo_all {N : List Lin} {f t : Int} {L : List Int} {m : Nat} (he : endB (m : Int) N f t = true) (hc : chB N L = true) (h : kpTo N f t L m) : loadB (m : Int) N f t L = true := by
  obtain ⟨_, hf, _, _⟩ := endB_true.1 he
  refine loadB_true.2 ⟨he, hc, fun k h0 h1 h2 h3 => ?_, ?_⟩
  · have := (h k.toNat (by omega)).1
    rw [Int.toNat_of_nonneg h0] at this
    exact this h2 h3
  · have := (h f.toNat (by omega)).2
    rw [Int.toNat_of_nonneg hf.1] at this
    exact this rfl
theorem kpTo_not {N : List Lin} {f t : Int} {L : List Int} {m k : Nat} (hk : k < m) (h : ¬ kpOk N f t L (k : Int)) : loadB (m : Int) N f t L = false := by
  apply eq_false_of_ne_true
  intro e
  obtain ⟨_, _, h3, h4⟩ := loadB_true.1 e
  exact h ⟨fun h1 h2 => h3 _ (by omega) (by omega) h1 h2, fun h1 => by rw [h1]; exact h4⟩
theorem load_no1 {n : Int} {N : List Lin} {f t : Int} {L : List Int} (h : endB n N f t = false) : loadB n N f t L = false := by unfold loadB; rw [h]; rfl
theorem load_no2 {n : Int} {N : List Lin} {f t : Int} {L : List Int} (h : chB N L = false) : loadB n N f t L = false := by unfold loadB; rw [h, Bool.and_false]; rfl

set_option maxHeartbeats 4000000 in
theorem specLoadValid_b (n f t : Int) (A B : Option Addr) (c d : Nat) (ss : List Lin) (L : List Int) (w : World) (ha : ArgL w A c ss) (hb : Arg w B d L) :
    Calls Try.prog 34 #[.int .i64 n, .slice A ss.length c, .int .i64 f, .int .i64 t, .slice B L.length d] w (RetB (.bool (loadB n ss f t L)) w) := by
  have hl := ha.len
  have hl2 := hb.len
  have HA := Lib.hid ha
  have HB := Lib.hid hb
  clear ha hb
  go_enter Try.func34, Try.ntmps34
  go_wp2_with fail
  refine (l7Two_c _ _ _ _ _ _ _ HA.out).mono ?_
  rintro e w1 ⟨rfl, hb1⟩
  replace HA := Lib.hid (HA.out.go hb1)
  replace HB := Lib.hid (HB.out.go hb1)
  have Hb1 := Lib.hid hb1
  clear hb1
  cases e1 : endB n ss f t
  · have N := Lib.hid (load_no1 (L := L) e1)
    clear e1
    go_wp2
    go_ret
    exact ⟨by rw [N.out] <;> rfl, Hb1.out⟩
  obtain ⟨m, rfl, hm, hf, ht, hft⟩ := ends_nat e1
  have hn := (endB_true.1 e1).1
  have E1 := Lib.hid e1
  have Hn := Lib.hid hn
  have h9 : ∀ k, k < ss.length → 1 ≤ (linAt ss k).c ∧ (linAt ss k).c ≤ 9 := fun k hk => (netB_at hn hk).2
  have H9 := Lib.hid h9
  clear e1 hn h9
  by_cases hll : L.length = ss.length
  · have g1 : ((L.length : Int) != (ss.length : Int)) = false := by simp [hll]
    have Hll := Lib.hid hll
    clear hll
    go_wp2
    go_loopw [11] (fun i wr => ∃ k : Nat, k ≤ L.length ∧ chTo ss L k ∧ i = .int .i64 k ∧ Below w1.heap.size w1 wr) (fun i _ => L.length - (intOf i).toNat)
    case atStart => exact ⟨0, Nat.zero_le _, chTo_zero _ _, rfl, Below.refl _ _⟩
    case round =>
      obtain ⟨k, hk, ho, rfl, hbq⟩ := hrel
      have Ho := Lib.hid ho
      have Hq := Lib.hid hbq
      clear ho hbq
      by_cases hlt : k < L.length
      · have hlt2 : k < ss.length := by have := Hll.out; omega
        obtain ⟨b1, off1, rfl, _, hb1, hc0, hc1, hc2⟩ := (HA.out.go Hq.out).rd.at_ hlt2
        obtain ⟨b2, off2, rfl, _, hb2, hd⟩ := (HB.out.go Hq.out).rd.at_ hlt
        have hyes := fun h => chTo_succ Ho.out h
        have hno := fun h => chTo_not (L := L) hlt2 h
        have hF : lnB ss L k = inB (ldAt L k) (-(linAt ss k).c) (linAt ss k).c := rfl
        have h1 := H9.out k hlt2
        rw [show L[k]?.getD 0 = ldAt L k from rfl] at hd
        obtain ⟨s, hs⟩ : ∃ s, linAt ss k = s := ⟨_, rfl⟩
        obtain ⟨l, hlk⟩ : ∃ l, ldAt L k = l := ⟨_, rfl⟩
        rw [hs] at hc0 hc1 hc2 hF h1
        rw [hlk] at hd hF
        have Hyes := Lib.hid hyes
        have Hno := Lib.hid hno
        have HF := Lib.hid hF
        clear hs hlk hyes hno hF
        obtain ⟨g5, g6⟩ := h1
        have g3 : (k : Int) < (ss.length : Int) := by omega
        have g4 : (k : Int) < (L.length : Int) := by omega
        have g7 : IntKind.i64.wrap (-s.c) = -s.c := IntWalk.i64_in _ (by omega)
        cases e1 : inB l (-s.c) s.c
        · have N := Lib.hid (load_no2 (n := (m : Int)) (f := f) (t := t) (Hno.out (HF.out.trans e1)))
          have E2 := Lib.hid e1
          clear e1
          go_wp2
          go_quiet ((go_at_call 61; refine Calls.quiet_of_same (v := .bool false) ((l6In_c _ _ _ _).mono ?_); rintro e w' ⟨rfl, rfl⟩; exact ⟨by rw [E2.out], rfl⟩))
          go_wp2
          go_ret
          exact ⟨by rw [N.out] <;> rfl, below_drewN (below_step Hb1.out Hq.out) _⟩
        · have N := Lib.hid (Hyes.out (HF.out.trans e1))
          have E2 := Lib.hid e1
          clear e1
          go_wp2
          go_quiet ((go_at_call 61; refine Calls.quiet_of_same (v := .bool true) ((l6In_c _ _ _ _).mono ?_); rintro e w' ⟨rfl, rfl⟩; exact ⟨by rw [E2.out], rfl⟩))
          go_wp2
          go_roundw
          case rel => exact ⟨k + 1, by omega, N.out, by go_num, below_drewN Hq.out _⟩
          case measure => simp [intOf]; omega
      · obtain rfl : k = L.length := by omega
        have hC := chTo_all Hll.out (by rw [← Hll.out]; exact Ho.out)
        have HC := Lib.hid hC
        have hA := HA.out.go Hq.out
        have hB := HB.out.go Hq.out
        have hb1 := below_step Hb1.out Hq.out
        have HA2 := Lib.hid hA
        have HB2 := Lib.hid hB
        have Hb2 := Lib.hid hb1
        clear hC hA hB hb1 HA HB Ho hlt
        go_wp2
        go_loop [12] (fun i => ∃ k : Nat, k ≤ m ∧ kpTo ss f t L k ∧ i = .int .i64 k) (fun i => m - (intOf i).toNat)
        case atStart => exact ⟨0, Nat.zero_le _, kpTo_zero _ _ _ _, rfl⟩
        case round =>
          obtain ⟨k, hk, ho, rfl⟩ := hrel
          have Ho := Lib.hid ho
          clear ho
          by_cases hlt : k < m
          · have g3 : (k : Int) < (m : Int) := by omega
            have hyes := fun h => kpTo_succ Ho.out h
            have hno := fun h => kpTo_not (N := ss) (f := f) (t := t) (L := L) hlt h
            have Hyes := Lib.hid hyes
            have Hno := Lib.hid hno
            clear hyes hno
            go_wp2_with fail
            refine (l7Out_c _ _ _ _ _ _ _ _ _ HA2.out HB2.out Hn.out HC.out).mono ?_
            rintro e w' ⟨rfl, rfl⟩
            obtain ⟨V, hV⟩ : ∃ V, outV ss L (k : Int) = V := ⟨_, rfl⟩
            rw [hV]
            have HV := Lib.hid hV
            clear hV
            by_cases h1 : (k : Int) = f
            · have q1 : ((k : Int) != f) = false := by simp [h1]
              have q2 : ((k : Int) == f) = true := by simp [h1]
              have H1 := Lib.hid h1
              clear h1
              by_cases h2 : V < 0
              · have N := Lib.hid (Hno.out (fun h => by have := h.2 H1.out; rw [HV.out] at this; omega))
                go_wp2
                go_ret
                exact ⟨by rw [N.out] <;> rfl, Hb2.out⟩
              · have N := Lib.hid (Hyes.out ⟨fun h => absurd H1.out h, fun _ => by rw [HV.out]; omega⟩)
                go_wp2
                go_round
                case rel => exact ⟨k + 1, by omega, N.out, by go_num⟩
                case measure => simp [intOf]; omega
            · have q1 : ((k : Int) != f) = true := by simp [h1]
              have q2 : ((k : Int) == f) = false := by simp [h1]
              have H1 := Lib.hid h1
              clear h1
              by_cases h2 : (k : Int) = t
              · have q3 : ((k : Int) != t) = false := by simp [h2]
                have N := Lib.hid (Hyes.out ⟨fun _ h => absurd h2 h, fun h => absurd h H1.out⟩)
                clear h2
                go_wp2
                go_round
                case rel => exact ⟨k + 1, by omega, N.out, by go_num⟩
                case measure => simp [intOf]; omega
              · have q3 : ((k : Int) != t) = true := by simp [h2]
                have H2 := Lib.hid h2
                clear h2
                by_cases h3 : V = 0
                · have q4 : (V != 0) = false := by simp [h3]
                  have N := Lib.hid (Hyes.out ⟨fun _ _ => by rw [HV.out]; exact h3, fun h => absurd h H1.out⟩)
                  clear h3
                  go_wp2
                  go_round
                  case rel => exact ⟨k + 1, by omega, N.out, by go_num⟩
                  case measure => simp [intOf]; omega
                · have q4 : (V != 0) = true := by simp [h3]
                  have N := Lib.hid (Hno.out (fun h => h3 (by rw [← HV.out]; exact h.1 H1.out H2.out)))
                  clear h3
                  go_wp2
                  go_ret
                  exact ⟨by rw [N.out] <;> rfl, Hb2.out⟩
          · obtain rfl : k = m := by omega
            have N := Lib.hid (kpTo_all E1.out HC.out Ho.out)
            go_wp2
            go_ret
            exact ⟨by rw [N.out] <;> rfl, Hb2.out⟩
  · have g1 : ((L.length : Int) != (ss.length : Int)) = true := by simp; omega
    have N := Lib.hid (load_no2 (n := (m : Int)) (f := f) (t := t) (ch_len hll))
    clear hll
    go_wp2
    go_ret
    exact ⟨by rw [N.out] <;> rfl, Hb1.out⟩

set_option maxHeartbeats 1000000 in
theorem specLoadTraffic_b (n f t : Int) (A B : Option Addr) (c d : Nat) (ss : List Lin) (L : List Int) (w : World) (ha : ArgL w A c ss) (hb : Arg w B d L) :
    Calls Try.prog 38 #[.int .i64 n, .slice A ss.length c, .int .i64 f, .int .i64 t, .slice B L.length d] w (RetB (.int .i64 (trafV n ss f t L)) w) := by
  have HA := Lib.hid ha
  have HB := Lib.hid hb
  have hv : trafV n ss f t L = if loadB n ss f t L then outV ss L f else -1 := rfl
  have HV := Lib.hid hv
  clear ha hb hv
  go_enter Try.func38, Try.ntmps38
  go_wp2_with fail
  refine (specLoadValid_b _ _ _ _ _ _ _ _ _ _ HA.out HB.out).mono ?_
  rintro e w1 ⟨rfl, hb1⟩
  replace HA := Lib.hid (HA.out.go hb1)
  replace HB := Lib.hid (HB.out.go hb1)
  have Hb1 := Lib.hid hb1
  clear hb1
  cases e1 : loadB n ss f t L
  · have E1 := Lib.hid e1
    clear e1
    go_wp2
    go_ret
    exact ⟨by rw [HV.out, E1.out] <;> rfl, Hb1.out⟩
  obtain ⟨h1, h2, _, _⟩ := loadB_true.1 e1
  have H1 := Lib.hid (endB_true.1 h1).1
  have H2 := Lib.hid h2
  have E1 := Lib.hid e1
  clear e1 h1 h2
  go_wp2_with fail
  refine (l7Out_c _ _ _ _ _ _ _ _ _ HA.out HB.out H1.out H2.out).mono ?_
  rintro e w' ⟨rfl, rfl⟩
  go_wp2
  go_ret
  exact ⟨by rw [HV.out, E1.out] <;> rfl, Hb1.out⟩

end Go.Proofs.Ytbnpglljloaclaa
