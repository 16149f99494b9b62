/-
  The greatest load of the model: l7Load, TrafficLoad, TrafficMost.
-/
import Derived.Test.YtnekjhpocfdpnaaTfY
import Derived.Test.YtnekjhpocfdpnaaTfW0
import Derived.Deep.LoopGhost
import Derived.Test.YtnekjhpocfdpnaaApI0
import Derived.Test.YtnekjhpocfdpnaaTfC
namespace Go.Proofs.Ytnekjhpocfdpnaa
open Go.RowKit

/-- an empty slice in new memory -/
theorem RetS.none0 {f : Value → Value} {w w1 : World} (hb : Below w.heap.size w w1) : RetS 3 f [] w (.returned (f (.slice (some ⟨w1.heap.size, 0, none⟩) 0 0))) (w1.alloc (.cells #[] 3)) :=
  RetS.mk (by simp) (OwnsRow.more (own_none w1 _) hb.size) (below_step hb (below_none w1 _))
/-- a row of the call's own, as an argument -/
theorem own_arg {W : World} {base G k : Nat} {M : List Int} (h : W.ownsRow base 3 1 (.slice (some ⟨G, 0, none⟩) k k) k (M.map (Value.int .i64))) (hl : M.length = k) (h2 : k ≤ 2097152) : Arg W (some ⟨G, 0, none⟩) k M := by
  subst hl
  exact (Ow.of_own h).arg h2 (Nat.le_refl _)
theorem l7Free_r {n : Int} {A : Option Addr} {c G k base : Nat} {ss : List Lin} {M : List Int} (a b : Int) {W : World} (ha : ArgL W A c ss) (h : W.ownsRow base 3 1 (.slice (some ⟨G, 0, none⟩) k k) k (M.map (Value.int .i64))) (hl : M.length = k) (h2 : k ≤ 2097152) (hn : netB n ss = true) (hc : chB ss M = true) :
    Calls Try.prog 53 #[.slice A ss.length c, .slice (some ⟨G, 0, none⟩) k k, .int .i64 a, .int .i64 b] W fun e W' => e = .returned (.tuple #[.int .i64 (frI ss M a b), .int .i64 (sgI ss M a b)]) ∧ Below W.heap.size W W' := by
  have h3 := l7Free_c n A (some ⟨G, 0, none⟩) c k ss M a b W ha (own_arg h hl h2) hn hc
  rw [hl] at h3
  exact h3.mono (fun e W' h => h.toB)
theorem l7Steps_r {m tn : Nat} {A : Option Addr} {c G k base : Nat} {ss : List Lin} {M : List Int} {W : World} (ha : ArgL W A c ss) (h : W.ownsRow base 3 1 (.slice (some ⟨G, 0, none⟩) k k) k (M.map (Value.int .i64))) (hl : M.length = k) (h2 : k ≤ 2097152) (hn : netB (m : Int) ss = true) (hc : chB ss M = true) (ht : tn < m) :
    Calls Try.prog 52 #[.int .i64 (m : Int), .slice A ss.length c, .slice (some ⟨G, 0, none⟩) k k, .int .i64 (tn : Int)] W (RetS 3 id (stepL (fr ss M) m (tn : Int)) W) := by
  have h3 := l7Steps_c m tn A (some ⟨G, 0, none⟩) c k ss M W ha (own_arg h hl h2) hn hc ht
  rw [hl] at h3
  exact h3
theorem bump_put {n : Int} {N : List Lin} {L : List Int} {a b : Int} {k : Nat} (hn : netB n N = true) (hk : k < N.length) (h : frI N L a b = (k : Int)) (hf : frAt N L a b k = true) : bump N L a b = L.set k (ldAt L k + sgI N L a b) := by
  unfold bump
  rw [h, Int.toNat_natCast, bump_sg hn hk h hf]
theorem sgI_bd (N : List Lin) (L : List Int) (a b : Int) : -1 ≤ sgI N L a b ∧ sgI N L a b ≤ 1 := by
  unfold sgI
  split
  · omega
  · split <;> omega
/-- the steps' slice, whatever is written below it -/
theorem held_cell {lo hi : Nat} {W : World} {A : Option Addr} {c : Nat} {O : List Int} (h : Held lo hi W A c O) {x : Nat} (hx : x < O.length) : ∃ b off, A = some ⟨b, off, none⟩ ∧ W.cell? ⟨b, off + x, none⟩ = some (.int .i64 (oAt O (x : Int))) := by
  obtain ⟨b, off, e, _, _, hc⟩ := h.1 (by omega)
  exact ⟨b, off, e, hc x hx⟩

set_option maxRecDepth 100000 in
set_option maxHeartbeats 8000000 in
theorem l7Load_c (m fn tn : Nat) (A : Option Addr) (c : Nat) (ss : List Lin) (w : World) (ha : ArgL w A c ss) (he : endB (m : Int) ss (fn : Int) (tn : Int) = true) :
    Calls Try.prog 37 #[.int .i64 (m : Int), .slice A ss.length c, .int .i64 (fn : Int), .int .i64 (tn : Int)] w (RetS 3 id (TL (m : Int) ss (fn : Int) (tn : Int)) w) := by
  obtain ⟨i0, hi, hz0, hz1, hz2⟩ := info_parts int_info
  have hn := (endB_true.1 he).1
  have h10 := (netB_true.1 hn).2.1
  obtain ⟨m', em, hm, hf, ht, hft⟩ := ends_nat he
  obtain rfl : m = m' := by omega
  have hm6 : m ≤ 6 := hm.2
  have hfm : fn < m := by omega
  have htm : tn < m := by omega
  have Hn := Lib.hid hn
  have HA := Lib.hid ha
  have Hstep : Hid (∀ (M : List Int), flowP ss fn tn M → wayV ss m fn tn M ≠ [] → flowP ss fn tn (addC ss M fn (wayV ss m fn tn M).tail) ∧ outV ss (addC ss M fn (wayV ss m fn tn M).tail) fn = outV ss M fn + 1) := Lib.hid (fun M hM hw => by
    have := flow_add he hM (by rw [Int.toNat_natCast]; exact hw)
    rwa [Int.toNat_natCast] at this)
  have HTL : Hid (trL ss m fn tn 200 (ld0 ss) = TL (m : Int) ss fn tn) := Lib.hid (by unfold TL; rw [Int.toNat_natCast])
  have Hfl0 := Lib.hid (flow_zero (f := (fn : Int)) (t := (tn : Int)) hn)
  have HTlen := Lib.hid (TL_len he)
  have hmi := made_ints ss.length
  have HMI := Lib.hid hmi
  obtain ⟨G, hG⟩ : ∃ G, G = w.heap.size := ⟨_, rfl⟩
  have HG := Lib.hid hG
  clear ha he hn hmi em hm hf ht hft
  go_enter Try.func37, Try.ntmps37
  go_wp2_with (at_make; refine wpList_make_full _ rfl (.tmp 16) (.tmp 16) 24 rfl w.heap.size 3 i0 (.int .i64 0) 1 Try.underlying24 hi hz0 hz1 .i64 .i64 _ _ ss.length rfl rfl rfl rfl (by rw [hz2]; omega) (by unfold maxLen; omega) (Nat.le_refl _) ?_; intro w1 hown hg1)
  rw [HMI.out] at hown
  have hb1 : Below w.heap.size w w1 := (Below.refl _ _).grown hg1 (Nat.le_refl _) (by simp)
  have hsz1 : w.heap.size < w1.heap.size := (hown.lt _ rfl).2
  have hA1 := HA.out.go hb1
  rw [← hG] at hown hb1 hsz1 ⊢
  have Hown : Hid (w1.ownsRow G 3 1 (.slice (some ⟨G, 0, none⟩) ss.length ss.length) ss.length ((ld0 ss).map (Value.int .i64))) := Lib.hid hown
  have Hb1 := Lib.hid hb1
  have Hsz1 := Lib.hid hsz1
  have HA1 := Lib.hid hA1
  have Hld : Hid ((ld0 ss).length = ss.length) := Lib.hid (by simp [ld0])
  clear hown hb1 hg1 hG hsz1 hA1
  go_wp2_with fail
  refine (l7Steps_r HA1.out Hown.out Hld.out (by omega) Hn.out Hfl0.out.1 htm).mono ?_
  rintro e w2 ⟨A2, c2, rfl, ha2, ho2, hb2⟩
  dsimp only [id]
  have Hrow := Lib.hid (own_below Hown.out hb2)
  have Hb2 := Lib.hid (Hb1.out.trans (hb2.mono (Nat.le_of_lt Hsz1.out)))
  have Hsz2 := Lib.hid (Nat.lt_of_lt_of_le Hsz1.out hb2.size)
  have HS2 := Lib.hid (ho2.held (Nat.le_refl _) ha2.len)
  clear ha2 ho2 hb2 HA1
  go_wp2
  go_loopg [10] 200 (fun F sv wr => ∃ (M : List Int) (lo hi : Nat) (A3 : Option Addr) (c3 : Nat), sv = .slice A3 (stepL (fr ss M) m (tn : Int)).length c3 ∧ Held lo hi wr A3 c3 (stepL (fr ss M) m (tn : Int)) ∧ G < lo ∧
      wr.ownsRow G 3 1 (.slice (some ⟨G, 0, none⟩) ss.length ss.length) ss.length (M.map (Value.int .i64)) ∧ flowP ss fn tn M ∧ trL ss m fn tn F M = TL (m : Int) ss fn tn ∧ 200 ≤ (F : Int) + outV ss M fn ∧ Below G w wr ∧ G < wr.heap.size)
  case atStart => exact ⟨ld0 ss, _, _, A2, c2, rfl, HS2.out, Hsz1.out, Hrow.out, Hfl0.out, HTL.out, by unfold ld0; rw [outV_zero]; omega, Hb2.out, Hsz2.out⟩
  case round =>
    obtain ⟨M, lo, hi', A3, c3, rfl, hs, hlo, hrow, hfl, htr, hF, hb, hsz⟩ := hrel
    have hD := stepL_dst (fr := fr ss M) (m := m) (to := (tn : Int)) hm6 (by omega)
    have hcase := way_steps (N := ss) (L := M) (m := m) (f := (fn : Int)) (t := (tn : Int)) hm6 (by omega) (by omega)
    obtain ⟨O, hO⟩ : ∃ O, stepL (fr ss M) m (tn : Int) = O := ⟨_, rfl⟩
    rw [hO] at hs hD hcase ⊢
    have HO := Lib.hid hO
    have hOl := hD.len
    obtain ⟨b3, off3, rfl, kf⟩ := held_cell hs (x := fn) (by rw [hOl]; exact hfm)
    have HOl := Lib.hid hOl
    have HD := Lib.hid hD
    have Hs := Lib.hid hs
    have Hrow2 := Lib.hid hrow
    have Hfl := Lib.hid hfl
    have Htr := Lib.hid htr
    have HF := Lib.hid hF
    have Hb := Lib.hid hb
    have Hsz := Lib.hid hsz
    have hMl := (chB_true.1 hfl.1).1
    have HMl := Lib.hid hMl
    have hbdO := hD.low (fn : Int) (by omega) (by omega)
    obtain ⟨vf, hvf⟩ : ∃ vf, oAt O (fn : Int) = vf := ⟨_, rfl⟩
    rw [hvf] at kf hcase hbdO
    have Hvf := Lib.hid hvf
    have Hcase := Lib.hid hcase
    have g1 : (fn : Int) < (O.length : Int) := by rw [HOl.out]; omega
    clear hO hOl hD hs hrow hfl htr hF hb hsz hMl hvf hcase
    by_cases hv : 0 ≤ vf
    · obtain ⟨F0, e0, hway⟩ : ∃ F : Nat, vf = (F : Int) ∧ wayV ss m (fn : Int) (tn : Int) M = (fn : Int) :: grd (fr ss M) m O F (fn : Int) := by
        rcases Hcase.out with ⟨h, _⟩ | h
        · omega
        · exact h
      have hne : wayV ss m (fn : Int) (tn : Int) M ≠ [] := by rw [hway]; simp
      have hst := Hstep.out M Hfl.out hne
      rw [hway, List.tail_cons] at hst
      have Hst := Lib.hid hst
      obtain ⟨F', rfl⟩ : ∃ F', gk = F' + 1 := ⟨gk - 1, by
        have h1 := HF.out
        have h2 := outV_bd Hn.out Hfl.out.1 fn
        omega⟩
      have Htr2 : Hid (trL ss m fn tn F' (addC ss M fn (grd (fr ss M) m O F0 fn)) = TL (m : Int) ss fn tn) := Lib.hid (by
        have h := Htr.out
        rw [trL, if_neg hne, hway, List.tail_cons] at h
        exact h)
      have He0 := Lib.hid e0
      clear hne hway hst e0
      go_wp2
      go_loopg [11] F0 (fun Fq av wr => ∃ (an : Nat) (M2 : List Int), av = .int .i64 (an : Int) ∧ an < m ∧ oAt O (an : Int) = (Fq : Int) ∧ lowS ss O M M2 (an : Int) ∧ chB ss M2 = true ∧
          addC ss M2 (an : Int) (grd (fr ss M) m O Fq (an : Int)) = addC ss M fn (grd (fr ss M) m O F0 fn) ∧ wr.ownsRow G 3 1 (.slice (some ⟨G, 0, none⟩) ss.length ss.length) ss.length (M2.map (Value.int .i64)) ∧ Held lo hi' wr (some ⟨b3, off3, none⟩) c3 O ∧ Below G w wr ∧ G < wr.heap.size)
      case atStart => exact ⟨fn, M, rfl, hfm, by rw [Hvf.out]; exact He0.out, lowS_self _ _ _ _, Hfl.out.1, rfl, Hrow2.out, Hs.out, Hb.out, Hsz.out⟩
      case round =>
        obtain ⟨an, M2, rfl, ham, hoa, hlow, hc2, hadd, hrow3, hs3, hb3, hsz3⟩ := hrel
        have Hlow := Lib.hid hlow
        have Hc2 := Lib.hid hc2
        have Hadd := Lib.hid hadd
        have Hrow3 := Lib.hid hrow3
        have Hs3 := Lib.hid hs3
        have Hb3 := Lib.hid hb3
        have Hsz3 := Lib.hid hsz3
        have Hoa := Lib.hid hoa
        have hM2l := (chB_true.1 hc2).1
        have HM2l := Lib.hid hM2l
        clear hlow hc2 hadd hrow3 hs3 hb3 hsz3 hM2l hoa
        by_cases hat : (an : Int) = (tn : Int)
        · have q1 : ((an : Int) != (tn : Int)) = false := by simp [hat]
          have hgk : gk = 0 := by
            have h1 := Hoa.out
            rw [hat, HD.out.zero] at h1
            omega
          subst hgk
          have hfin : M2 = addC ss M fn (grd (fr ss M) m O F0 fn) := by have h := Hadd.out; rwa [grd, addC] at h
          have Hfin := Lib.hid hfin
          have hMout : Hid (flowP ss fn tn M2 ∧ outV ss M2 fn = outV ss M fn + 1) := Lib.hid (by rw [hfin]; exact Hst.out)
          clear hat hfin
          go_wp2_with fail
          refine (l7Steps_r (HA.out.go (below_of Hb3.out HG.out)) Hrow3.out HM2l.out (by omega) Hn.out Hc2.out htm).mono ?_
          rintro e w5 ⟨A5, c5, rfl, ha5, ho5, hb5⟩
          dsimp only [id]
          have Hrow5 := Lib.hid (own_below Hrow3.out hb5)
          have Hb5 := Lib.hid (Hb3.out.trans (hb5.mono (Nat.le_of_lt Hsz3.out)))
          have Hsz5 := Lib.hid (Nat.lt_of_lt_of_le Hsz3.out hb5.size)
          have HS5 := Lib.hid (ho5.held (Nat.le_refl _) ha5.len)
          clear ha5 ho5 hb5
          go_wp2
          go_roundg F'
          case rel => exact ⟨M2, _, _, A5, c5, rfl, HS5.out, Hsz3.out, Hrow5.out, hMout.out.1, by rw [Hfin.out]; exact Htr2.out, by rw [hMout.out.2]; have := HF.out; omega, Hb5.out, Hsz5.out⟩
          case measure => omega
        · have q1 : ((an : Int) != (tn : Int)) = true := by simp; omega
          obtain ⟨Fp, rfl⟩ : ∃ Fp, gk = Fp + 1 := ⟨gk - 1, by
            have h1 := HD.out.only (an : Int) (by omega) (by omega)
            have h2 := Hoa.out
            rcases Nat.eq_zero_or_pos gk with h3 | h3
            · subst h3
              exact absurd (h1 h2) hat
            · omega⟩
          clear hat
          obtain ⟨y, hy1, hy2, hy3, hy4, hy5, hy6, hy7, hy8⟩ := low_step Hn.out HD.out Hlow.out Hc2.out (by omega) (by omega) Hoa.out
          have Hy3 := Lib.hid hy3
          have Hy4 := Lib.hid hy4
          have Hy6 := Lib.hid hy6
          have Hy7 := Lib.hid hy7
          have Hy8 := Lib.hid hy8
          have Hadd2 : Hid (addC ss (bump ss M2 (an : Int) (y : Int)) (y : Int) (grd (fr ss M) m O Fp (y : Int)) = addC ss M fn (grd (fr ss M) m O F0 fn)) := Lib.hid (by
            have h := Hadd.out
            rw [grd, hy1, addC] at h
            exact h)
          have HA3 := Lib.hid (HA.out.go (below_of Hb3.out HG.out))
          clear hy1 hy3 hy4 hy5 hy6 hy7 hy8 Hadd
          go_wp2_with fail
          refine (l7Free_r (an : Int) 0 HA3.out Hrow3.out HM2l.out (by omega) Hn.out Hc2.out).mono ?_
          rintro e w5 ⟨rfl, hb5⟩
          have Hrow5 := Lib.hid (own_below Hrow3.out hb5)
          have Hb5 := Lib.hid (Hb3.out.trans (hb5.mono (Nat.le_of_lt Hsz3.out)))
          have Hsz5 := Lib.hid (Nat.lt_of_lt_of_le Hsz3.out hb5.size)
          have Hs5 := Lib.hid (Hs3.out.go hb5)
          clear hb5
          go_wp2
          go_loopw [12, 13, 14] (fun nx ln sg wr => ∃ z : Nat, z ≤ y ∧ nx = .int .i64 (z : Int) ∧ ln = .int .i64 (frI ss M2 (an : Int) (z : Int)) ∧ sg = .int .i64 (sgI ss M2 (an : Int) (z : Int)) ∧
              wr.ownsRow G 3 1 (.slice (some ⟨G, 0, none⟩) ss.length ss.length) ss.length (M2.map (Value.int .i64)) ∧ Held lo hi' wr (some ⟨b3, off3, none⟩) c3 O ∧ Below G w wr ∧ G < wr.heap.size) (fun nx _ _ _ => y - (intOf nx).toNat)
          case atStart => exact ⟨0, Nat.zero_le _, rfl, rfl, rfl, Hrow5.out, Hs5.out, Hb5.out, Hsz5.out⟩
          case round =>
            obtain ⟨z, hzy, rfl, rfl, rfl, hrow6, hs6, hb6, hsz6⟩ := hrel
            obtain ⟨b9, off9, e9, kz⟩ := held_cell hs6 (x := z) (by rw [HOl.out]; omega)
            injection e9 with e9
            injection e9 with e10 e11 _
            subst e10; subst e11
            obtain ⟨b9, off9, e9, ka⟩ := held_cell hs6 (x := an) (by rw [HOl.out]; omega)
            injection e9 with e9
            injection e9 with e10 e11 _
            subst e10; subst e11
            obtain ⟨oa, hoa2⟩ : ∃ oa, oAt O (an : Int) = oa := ⟨_, rfl⟩
            obtain ⟨ob, hob⟩ : ∃ ob, oa - 1 = ob := ⟨_, rfl⟩
            have hobF : ob = (Fp : Int) := by have := Hoa.out; omega
            rw [hoa2] at ka
            have hlz := HD.out.low (z : Int) (by omega) (by omega)
            obtain ⟨oz, hoz⟩ : ∃ oz, oAt O (z : Int) = oz := ⟨_, rfl⟩
            obtain ⟨I, hI⟩ : ∃ I, frI ss M2 (an : Int) (z : Int) = I := ⟨_, rfl⟩
            obtain ⟨sg, hsg⟩ : ∃ sg, sgI ss M2 (an : Int) (z : Int) = sg := ⟨_, rfl⟩
            have hsgb := sgI_bd ss M2 (an : Int) (z : Int)
            rw [hoz] at kz hlz
            rw [hsg] at hsgb ⊢
            rw [hI]
            have hgo : ∀ q, (wr.drewN q).ownsRow G 3 1 (.slice (some ⟨G, 0, none⟩) ss.length ss.length) ss.length (M2.map (Value.int .i64)) ∧ Held lo hi' (wr.drewN q) (some ⟨b3, off3, none⟩) c3 O ∧ Below G w (wr.drewN q) ∧ G < (wr.drewN q).heap.size := fun q => ⟨own_below hrow6 (below_drewN (Below.refl _ _) q), hs6.go (below_drewN (Below.refl _ _) q), below_drewN hb6 q, hsz6⟩
            have Hgo := Lib.hid hgo
            have Hoz := Lib.hid hoz
            have HI := Lib.hid hI
            have Hsg := Lib.hid hsg
            have q2 : IntKind.i64.wrap (oa - 1) = ob := by rw [IntWalk.i64_in _ (by have := HD.out.low (an : Int) (by omega) (by omega); omega)]; exact hob
            have HobF := Lib.hid hobF
            have Hob := Lib.hid hob
            have Hoa2 := Lib.hid hoa2
            clear hobF hob hoa2
            have g4 : (z : Int) < (O.length : Int) := by rw [HOl.out]; omega
            have g5 : (an : Int) < (O.length : Int) := by rw [HOl.out]; omega
            clear hrow6 hs6 hb6 hsz6 hgo hoz hI hsg
            have hgoon : z < y → I < 0 ∨ (¬ I < 0 ∧ ((oz != ob) = true ∧ (ob != oz) = true)) := fun h => by
              by_cases h1 : I < 0
              · exact .inl h1
              · right
                refine ⟨h1, ?_⟩
                rcases Hy6.out z h with h2 | h2
                · rw [HI.out] at h2; exact absurd h2 h1
                · rw [Hoz.out, Hoa2.out, Hob.out] at h2
                  exact ⟨by simpa using h2, by simpa using fun e => h2 e.symm⟩
            have Hgoon := Lib.hid hgoon
            clear hgoon
            by_cases hlt : z < y
            · rcases Hgoon.out hlt with h1 | ⟨h1, h2, h3⟩
              · have q3 : decide (I < 0) = true := decide_eq_true h1
                clear h1
                go_wp2
                go_quiet (fail)
                go_wp2_with fail
                refine (l7Free_r (an : Int) ((z : Int) + 1) (HA.out.go (below_of (Hgo.out _).2.2.1 HG.out)) (Hgo.out _).1 HM2l.out (by omega) Hn.out Hc2.out).mono ?_
                rintro e w7 ⟨rfl, hb7⟩
                have Hb7 := Lib.hid hb7
                clear hb7
                go_wp2
                go_roundw
                case rel => exact ⟨z + 1, by omega, by go_num, by push_cast; rfl, by push_cast; rfl, own_below (Hgo.out _).1 Hb7.out, (Hgo.out _).2.1.go Hb7.out, (Hgo.out _).2.2.1.trans (Hb7.out.mono (Nat.le_of_lt (Hgo.out _).2.2.2)), Nat.lt_of_lt_of_le (Hgo.out _).2.2.2 Hb7.out.size⟩
                case measure => simp [intOf]; omega
              · have q3 : decide (I < 0) = false := decide_eq_false h1
                clear h1
                go_wp2
                go_quiet (fail)
                go_wp2_with fail
                refine (l7Free_r (an : Int) ((z : Int) + 1) (HA.out.go (below_of (Hgo.out _).2.2.1 HG.out)) (Hgo.out _).1 HM2l.out (by omega) Hn.out Hc2.out).mono ?_
                rintro e w7 ⟨rfl, hb7⟩
                have Hb7 := Lib.hid hb7
                clear hb7
                go_wp2
                go_roundw
                case rel => exact ⟨z + 1, by omega, by go_num, by push_cast; rfl, by push_cast; rfl, own_below (Hgo.out _).1 Hb7.out, (Hgo.out _).2.1.go Hb7.out, (Hgo.out _).2.2.1.trans (Hb7.out.mono (Nat.le_of_lt (Hgo.out _).2.2.2)), Nat.lt_of_lt_of_le (Hgo.out _).2.2.2 Hb7.out.size⟩
                case measure => simp [intOf]; omega
            · obtain rfl : z = y := by omega
              have hI0 : ¬ I < 0 := by
                have h := Hy3.out
                unfold fr at h
                rw [HI.out] at h
                have := of_decide_eq_true h
                omega
              have hozF : oz = ob := by rw [HobF.out, ← Hoz.out]; exact Hy4.out
              have q3 : decide (I < 0) = false := decide_eq_false hI0
              have q4 : (oz != ob) = false := by simp [hozF]
              have q5 : (ob != oz) = false := by simp [hozF]
              rcases frI_case ss M2 (an : Int) (z : Int) with ⟨h1, _, _⟩ | ⟨i, hi9, hfi, _, hfa, _⟩
              · rw [HI.out] at h1; omega
              rw [HI.out] at hfi
              subst hfi
              have hput : bump ss M2 (an : Int) (z : Int) = M2.set i (ldAt M2 i + sg) := by rw [bump_put Hn.out hi9 HI.out hfa, Hsg.out]
              have hbk := chB_true.1 Hc2.out
              have h9 := netB_at Hn.out hi9
              have hb9 := hbk.2 i hi9
              obtain ⟨l, hl2⟩ : ∃ l, ldAt M2 i = l := ⟨_, rfl⟩
              rw [hl2] at hput hb9
              have hki : ∀ q, (wr.drewN q).cell? ⟨G, i, none⟩ = some (.int .i64 l) := fun q => by
                have := row_at (Hgo.out q).1 hi9 HM2l.out
                rw [this, ← hl2]
                rfl
              have hfi : ∀ q, (wr.drewN q).frozen? ⟨G, i, none⟩ = false := fun q => (Hgo.out q).1.frozenAt i
              have hl9 : -9 ≤ l ∧ l ≤ 9 := by omega
              have g6 : (i : Int) < (ss.length : Int) := by omega
              obtain ⟨p1, p2⟩ := hl9
              obtain ⟨p3, p4⟩ := hsgb
              have hlast : ∀ q, ((wr.drewN q).setCell ⟨G, i, none⟩ (.int .i64 (l + sg))).ownsRow G 3 1 (.slice (some ⟨G, 0, none⟩) ss.length ss.length) ss.length ((bump ss M2 (an : Int) (z : Int)).map (Value.int .i64)) ∧ Held lo hi' ((wr.drewN q).setCell ⟨G, i, none⟩ (.int .i64 (l + sg))) (some ⟨b3, off3, none⟩) c3 O ∧
                  Below G w ((wr.drewN q).setCell ⟨G, i, none⟩ (.int .i64 (l + sg))) ∧ G < ((wr.drewN q).setCell ⟨G, i, none⟩ (.int .i64 (l + sg))).heap.size := fun q => by
                have hst := (Hgo.out q).1.stored i (.int .i64 (l + sg))
                rw [← List.map_set, ← hput] at hst
                refine ⟨hst.1, (Hgo.out q).2.1.grown hst.2 (fun r e => ?_), (Hgo.out q).2.2.1.setCell (p := ⟨G, i, none⟩) (Nat.le_refl _) _, Nat.lt_of_lt_of_le (Hgo.out q).2.2.2 hst.2.size⟩
                have h1 : G = r := Option.some.inj e
                omega
              have Hlast := Lib.hid hlast
              clear hlast hput hbk h9 hb9 hl2 hfa hI0 hozF hlt
              go_wp2
              go_quiet (fail)
              go_wp2
              go_roundg Fp
              case rel => exact ⟨z, _, rfl, hy2, Hy4.out, Hy7.out, Hy8.out, Hadd2.out, (Hlast.out _).1, (Hlast.out _).2.1, (Hlast.out _).2.2.1, (Hlast.out _).2.2.2⟩
              case measure => omega
    · have hway : wayV ss m (fn : Int) (tn : Int) M = [] := by
        rcases Hcase.out with ⟨_, h⟩ | ⟨F, h, _⟩
        · exact h
        · omega
      have hfin : TL (m : Int) ss (fn : Int) (tn : Int) = M := by rw [← Htr.out, trL_no hway]
      have Hfin := Lib.hid hfin
      clear hway hfin
      go_wp2
      go_ret
      rw [Hfin.out]
      exact RetS.mk (f := id) (by rw [HMl.out]; omega) (by rw [HMl.out, ← HG.out]; exact Hrow2.out) (by rw [← HG.out]; exact Hb.out)

end Go.Proofs.Ytnekjhpocfdpnaa
