/-
  l9Free and LiftValid of the model. (Written by a program of mine, gen9l.py.)
-/
import Derived.Test.YtjboamhjfncgdaaRtAs
import Derived.Test.YtjboamhjfncgdaaRtO
import Derived.Test.YtjboamhjfncgdaaTkH0
namespace Go.Proofs.Ytjboamhjfncgdaa
open Go.RowKit

/-- an int's cell, in whatever world behind -/
theorem argI_at' {w : World} {A : Option Addr} {c : Nat} {zs : List Int} (ha : Arg w A c zs) {k : Nat} (hk : k < zs.length) : ∃ b off, A = some ⟨b, off, none⟩ ∧ ∀ W, Below w.heap.size w W → W.cell? ⟨b, off + k, none⟩ = some (.int .i64 (zs[k]?.getD 0)) := by
  obtain ⟨b, off, e, _, hb, hc⟩ := ha.rd.at_ hk
  exact ⟨b, off, e, fun W h => (h.cell (p := ⟨b, off + k, none⟩) hb).trans hc⟩
/-- the first m of them have been lifted -/
def goneTo (l : List Nat) (L : List Int) (m : Nat) : Prop := (l.take m).all (fun i => inL L i) = true
theorem goneTo_zero (l : List Nat) (L : List Int) : goneTo l L 0 := by simp [goneTo]
theorem goneTo_succ {l : List Nat} {L : List Int} {m : Nat} (h : goneTo l L m) (hm : m < l.length) (hp : inL L (l[m]?.getD 0) = true) : goneTo l L (m + 1) := by
  have e : l[m]?.getD 0 = l[m] := by simp [hm]
  rw [e] at hp
  unfold goneTo at *
  rw [List.take_succ_eq_append_getElem hm, List.all_append, h]; simp [hp]
theorem goneTo_not {R : List Rot} {k : Nat} {L : List Int} {m : Nat} (hm : m < (abvN R k).length) (hp : inL L ((abvN R k)[m]?.getD 0) = false) : freeB R L k = false := by
  have e : (abvN R k)[m]?.getD 0 = (abvN R k)[m] := by simp [hm]
  rw [e] at hp
  have : (abvN R k).all (fun i => inL L i) = false := by
    apply Bool.eq_false_iff.2
    intro h
    rw [List.all_eq_true] at h
    have := h _ (List.getElem_mem hm)
    rw [hp] at this; cases this
  unfold freeB; rw [this]; rfl
theorem goneTo_all {R : List Rot} {k : Nat} {L : List Int} (h : goneTo (abvN R k) L (abvN R k).length) : freeB R L k = !inL L k := by
  unfold goneTo at h
  rw [List.take_length] at h
  unfold freeB; rw [h]; rfl

set_option maxRecDepth 100000 in
set_option maxHeartbeats 4000000 in
theorem l9Free_c (A : Option Addr) (c : Nat) (ss : List Rot) (B : Option Addr) (d : Nat) (L : List Int) (k : Nat) (w : World) (h : chartB ss = true) (hk : k < ss.length) (ha : ArgK w A c ss) (hb : Arg w B d L) :
    Calls Try.prog 78 #[.slice A ss.length c, .slice B L.length d, .int .i64 (k : Int)] w (RetB (.bool (freeB ss L k)) w) := by
  have HA := Lib.hid ha
  have HB := Lib.hid hb
  have HR := Lib.hid (show abvV ss (k : Int) = ints (abvN ss k) from abvV_yes (hasR_nat h hk))
  have h8 := chart_len h
  have hl8 : (abvN ss k).length ≤ 8 := Nat.le_trans (abvN_len ss k) h8
  have Hdec := Lib.hid (fun x : Nat => (show decide ((x : Int) ∈ L) = inL L x from rfl))
  clear ha hb
  go_enter Try.func78, Try.ntmps78
  go_wp2_with fail
  refine (specRouteAbove_b A c ss (k : Int) _ HA.out).mono ?_
  rintro e w1 ⟨A2, c2, rfl, ra, _, rb⟩
  dsimp only [id]
  rw [HR.out] at ra ⊢
  have Ra := Lib.hid ra
  have Rb := Lib.hid rb
  have hil := ints_length (abvN ss k)
  clear ra rb
  have Hat := Lib.hid (fun m (hm : m < (abvN ss k).length) => ints_at (l := abvN ss k) hm)
  have Hs := Lib.hid (fun m h (hm : m < (abvN ss k).length) hp => goneTo_succ (L := L) (m := m) h hm hp)
  have Hx := Lib.hid (fun m (hm : m < (abvN ss k).length) hp => goneTo_not (L := L) (m := m) hm hp)
  have Hz := Lib.hid (fun h => goneTo_all (R := ss) (k := k) (L := L) h)
  obtain ⟨F, hF⟩ : ∃ F, abvN ss k = F := ⟨_, rfl⟩
  simp only [hF] at Ra hil hl8 Hat Hs Hx Hz ⊢
  obtain ⟨n, hn⟩ : ∃ n, (ints F).length = n := ⟨_, rfl⟩
  have Hn := Lib.hid hn
  rw [hn] at hil
  rw [hn]
  have hn8 : n ≤ 8 := by omega
  have Hil := Lib.hid hil
  clear hF hn hil hl8
  go_wp2
  go_loopw [8] (fun i wr => ∃ m : Nat, m ≤ n ∧ i = .int .i64 m ∧ goneTo F L m ∧ Below w1.heap.size w1 wr) (fun i _ => n - (intOf i).toNat)
  case atStart => exact ⟨0, Nat.zero_le _, rfl, goneTo_zero _ _, Below.refl _ _⟩
  case round =>
    obtain ⟨m, hm, rfl, ho, hb⟩ := hrel
    have Ho := Lib.hid ho
    have Hb := Lib.hid hb
    clear ho hb
    by_cases hlt : m < n
    · have hmF : m < F.length := by have := Hil.out; omega
      obtain ⟨b, off, rfl, hat⟩ := argI_at' Ra.out (k := m) (by rw [Hn.out]; exact hlt)
      have hc0 := hat _ Hb.out
      rw [Hat.out m hmF] at hc0
      have hsx := Hs.out m Ho.out hmF
      have hxx := Hx.out m hmF
      obtain ⟨y, hy⟩ : ∃ y, F[m]?.getD 0 = y := ⟨_, rfl⟩
      rw [hy] at hc0 hsx hxx
      have hdy := Hdec.out y
      obtain ⟨bb, hbb⟩ : ∃ bb, inL L y = bb := ⟨_, rfl⟩
      rw [hbb] at hsx hxx hdy
      have Hsx := Lib.hid hsx
      have Hxx := Lib.hid hxx
      have Hdy := Lib.hid hdy
      have g1 : (m : Int) < (n : Int) := by omega
      clear hat hy hbb hsx hxx hdy hmF
      go_wp2_with fail
      refine (l4Has_c _ _ _ _ _ (HB.out.go (below_step Rb.out Hb.out))).mono ?_
      rintro e w' ⟨rfl, rfl⟩
      rw [Hdy.out]
      cases bb
      · have Hv := Lib.hid (Hxx.out rfl)
        go_wp2
        go_ret
        exact ⟨by rw [Hv.out] <;> rfl, below_step Rb.out Hb.out⟩
      · have Hnx := Lib.hid (Hsx.out rfl)
        go_wp2
        go_roundw
        case rel => exact ⟨m + 1, by omega, by go_num, Hnx.out, Hb.out⟩
        case measure => simp [intOf]; omega
    · obtain rfl : m = n := by omega
      have Hv := Lib.hid (Hz.out (by have := Ho.out; rw [Hil.out] at this; exact this))
      have hdk := Hdec.out k
      obtain ⟨bb, hbb⟩ : ∃ bb, inL L k = bb := ⟨_, rfl⟩
      rw [hbb] at hdk Hv
      have Hdk := Lib.hid hdk
      clear hbb hdk
      go_wp2_with fail
      refine (l4Has_c _ _ _ _ _ (HB.out.go (below_step Rb.out Hb.out))).mono ?_
      rintro e w' ⟨rfl, rfl⟩
      rw [Hdk.out]
      go_wp2
      go_ret
      exact ⟨by rw [Hv.out] <;> rfl, below_step Rb.out Hb.out⟩

set_option maxRecDepth 100000 in
set_option maxHeartbeats 4000000 in
theorem specLiftValid_b (A : Option Addr) (c : Nat) (ss : List Rot) (B : Option Addr) (d : Nat) (O : List Int) (w : World) (ha : ArgK w A c ss) (hb : Arg w B d O) :
    Calls Try.prog 51 #[.slice A ss.length c, .slice B O.length d] w (RetB (.bool (liftB ss O)) w) := by
  have hl := hb.len
  have hod := hb.2.1
  have hdm := hb.2.2.1
  have HA := Lib.hid ha
  have HB := Lib.hid hb
  clear ha hb
  go_enter Try.func51, Try.ntmps51
  go_wp2_with fail
  refine (specChartValid_b _ _ _ _ HA.out).mono ?_
  rintro e w1 ⟨rfl, hb⟩
  have Hb1 := Lib.hid hb
  clear hb
  cases e1 : chartB ss
  · have Hv := Lib.hid (lift_no (O := O) e1)
    clear e1
    go_wp2
    go_ret
    exact ⟨by rw [Hv.out] <;> rfl, Hb1.out⟩
  have h8 := chart_len e1
  have Hch := Lib.hid e1
  clear e1
  by_cases hln : O.length = ss.length
  case neg =>
    have g1 : ((O.length : Int) != (ss.length : Int)) = true := by rw [bne_iff_ne]; omega
    have g2 : ((O.length : Int) = (ss.length : Int)) = False := eq_false (by omega)
    have Hv := Lib.hid (lift_len (R := ss) hln)
    clear hln
    go_wp2
    go_ret
    exact ⟨by rw [Hv.out] <;> rfl, Hb1.out⟩
  have g1 : ((O.length : Int) != (ss.length : Int)) = false := by rw [bne_eq_false_iff_eq]; omega
  have g2 : ((O.length : Int) = (ss.length : Int)) = True := eq_true (by omega)
  have Hln := Lib.hid hln
  have hlo : O.length ≤ 8 := by omega
  have q1 : IntKind.i64.wrap ((ss.length : Int) - 1) = (ss.length : Int) - 1 := IntWalk.i64_in _ (by omega)
  clear hln
  go_wp2
  clear g1 g2
  go_loopw [5] (fun i wr => ∃ j : Nat, j ≤ O.length ∧ i = .int .i64 j ∧ liftTo ss O j ∧ Below w.heap.size w wr) (fun i _ => O.length - (intOf i).toNat)
  case atStart => exact ⟨0, Nat.zero_le _, rfl, liftTo_zero _ _, Hb1.out⟩
  case round =>
    obtain ⟨j, hj, rfl, ho, hb⟩ := hrel
    have Ho := Lib.hid ho
    have Hb := Lib.hid hb
    clear ho hb
    by_cases hlt : j < O.length
    · obtain ⟨b, off, rfl, hat⟩ := argI_at' HB.out hlt
      have hyes := fun h => liftTo_succ Ho.out (j := j) h
      have hno := fun h => lift_not (R := ss) hlt h
      have hts := take_len (zs := O) (k := j) hj
      obtain ⟨x, hx⟩ : ∃ x, O[j]?.getD 0 = x := ⟨_, rfl⟩
      rw [hx] at hat hyes hno
      have Hyes := Lib.hid hyes
      have Hno := Lib.hid hno
      have Hat := Lib.hid hat
      have g3 : (j : Int) < (O.length : Int) := by omega
      have g4 : (j : Int) ≤ (d : Int) := by omega
      have g5 : j ≤ d := by omega
      clear hat hx hyes hno
      go_wp2
      refine wp_region_held_drew (S := (fun W => Below w.heap.size w W)) (by kernel_rfl) (below_drewN Hb.out 1) (fun hHeld => ?_)
      refine wpAnyH_take (i := 0) (oi := { dst := some 22, op := _, type := _, pos := _, after := _, guard := _ }) (v := ?va0) rfl (by kernel_rfl) (by kernel_rfl) (by kernel_rfl) (fun _ _ _ h => h) (Or.inl ⟨by kernel_rfl, ?ya0⟩) (by assumption) ?ra0
      case ya0 => intro w hSw; (try dsimp only at hSw); go_simp; try with_reducible rfl
      try simp only [Act.put, List.setIfInBounds_toArray, List.set_cons_zero, List.set_cons_succ]
      refine wpAnyH_take (i := 1) (oi := { dst := some 23, op := _, type := _, pos := _, after := _, guard := _ }) (v := ?va1) rfl (by kernel_rfl) (by kernel_rfl) (by kernel_rfl) (fun _ _ _ h => h) (Or.inl ⟨by kernel_rfl, ?ya1⟩) (by assumption) ?ra1
      case ya1 => intro w hSw; (try dsimp only at hSw); go_simp; try with_reducible rfl
      try simp only [Act.put, List.setIfInBounds_toArray, List.set_cons_zero, List.set_cons_succ]
      refine wpAnyH_take (i := 2) (oi := { dst := some 24, op := _, type := _, pos := _, after := _, guard := _ }) (v := ?va2) rfl (by kernel_rfl) (by kernel_rfl) (by kernel_rfl) (fun _ _ _ h => h) (Or.inl ⟨by kernel_rfl, ?ya2⟩) (by assumption) ?ra2
      case ya2 => intro w hSw; (try dsimp only at hSw); go_simp; try with_reducible rfl
      try simp only [Act.put, List.setIfInBounds_toArray, List.set_cons_zero, List.set_cons_succ]
      refine wpAnyH_take (i := 3) (oi := { dst := some 25, op := _, type := _, pos := _, after := _, guard := _ }) (v := ?va3) rfl (by kernel_rfl) (by kernel_rfl) (by kernel_rfl) (fun _ _ _ h => h) (Or.inl ⟨by kernel_rfl, ?ya3⟩) (by assumption) ?ra3
      case ya3 => intro w hSw; have c0 := Hat.out _ hSw; (try dsimp only at hSw); go_simp; try with_reducible rfl
      try simp only [Act.put, List.setIfInBounds_toArray, List.set_cons_zero, List.set_cons_succ]
      refine wpAnyH_take (i := 4) (oi := { dst := some 26, op := _, type := _, pos := _, after := _, guard := _ }) (v := ?va4) rfl (by kernel_rfl) (by kernel_rfl) (by kernel_rfl) (fun _ _ _ h => h) (Or.inl ⟨by kernel_rfl, ?ya4⟩) (by assumption) ?ra4
      case ya4 => intro w hSw; (try dsimp only at hSw); go_simp; try with_reducible rfl
      try simp only [Act.put, List.setIfInBounds_toArray, List.set_cons_zero, List.set_cons_succ]
      refine wpAnyH_take (i := 5) (oi := { dst := some 27, op := _, type := _, pos := _, after := _, guard := _ }) (v := ?va5) rfl (by kernel_rfl) (by kernel_rfl) (by kernel_rfl) (fun _ _ _ h => h) (Or.inl ⟨by kernel_rfl, ?ya5⟩) (by assumption) ?ra5
      case ya5 => intro w hSw; (try dsimp only at hSw); go_simp; try with_reducible rfl
      try simp only [Act.put, List.setIfInBounds_toArray, List.set_cons_zero, List.set_cons_succ]
      refine wpAnyH_take (i := 6) (oi := { dst := some 28, op := _, type := _, pos := _, after := _, guard := _ }) (v := ?va6) rfl (by kernel_rfl) (by kernel_rfl) (by kernel_rfl) (fun _ _ _ h => h) (Or.inl ⟨by kernel_rfl, ?ya6⟩) (by assumption) ?ra6
      case ya6 => intro w hSw; (try dsimp only at hSw); go_simp; try with_reducible rfl
      try simp only [Act.put, List.setIfInBounds_toArray, List.set_cons_zero, List.set_cons_succ]
      refine wpAnyH_ready (rs := [7]) (by kernel_rfl) (by simp) ?_
      refine AllReadyH.cons (o := { dst := some 29, op := _, type := _, pos := _, after := _, guard := _ }) rfl (fun K hK => ?_) AllReadyH.nil
      go_simp
      refine (l6In_c _ _ _ _).mono ?_
      rintro e w3 ⟨rfl, rfl⟩
      go_wp2_with fail
      refine hK.out _ _ (hHeld) (fun hHeld2 => ?_)
      clear hK K
      try simp only [Act.put, List.setIfInBounds_toArray, List.set_cons_zero, List.set_cons_succ]
      cases e1 : inB x 0 ((ss.length : Int) - 1)
      · have Hv := Lib.hid (Hno.out (freeAt_no e1))
        clear e1
        refine wpAnyH_take (i := 8) (oi := { dst := some 30, op := _, type := _, pos := _, after := _, guard := _ }) (v := ?vb8) rfl (by kernel_rfl) (by kernel_rfl) (by kernel_rfl) (fun _ _ _ h => h) (Or.inl ⟨by kernel_rfl, ?yb8⟩) (by assumption) ?rb8
        case yb8 => intro w hSw; (try dsimp only at hSw); go_simp; try with_reducible rfl
        try simp only [Act.put, List.setIfInBounds_toArray, List.set_cons_zero, List.set_cons_succ]
        refine wpAnyH_take (i := 9) (oi := { dst := some 31, op := _, type := _, pos := _, after := _, guard := _ }) (v := ?vb9) rfl (by kernel_rfl) (by kernel_rfl) (by kernel_rfl) (fun _ _ _ h => h) (Or.inl ⟨by kernel_rfl, ?yb9⟩) (by assumption) ?rb9
        case yb9 => intro w hSw; (try dsimp only at hSw); go_simp; try with_reducible rfl
        try simp only [Act.put, List.setIfInBounds_toArray, List.set_cons_zero, List.set_cons_succ]
        refine wpAnyH_take (i := 10) (oi := { dst := some 32, op := _, type := _, pos := _, after := _, guard := _ }) (v := undef) rfl (by kernel_rfl) (by kernel_rfl) (by kernel_rfl) (fun _ _ _ h => h) (Or.inr ⟨by kernel_rfl, rfl⟩) (by assumption) ?_
        try simp only [Act.put, List.setIfInBounds_toArray, List.set_cons_zero, List.set_cons_succ]
        refine wpAnyH_take (i := 11) (oi := { dst := some 33, op := _, type := _, pos := _, after := _, guard := _ }) (v := undef) rfl (by kernel_rfl) (by kernel_rfl) (by kernel_rfl) (fun _ _ _ h => h) (Or.inr ⟨by kernel_rfl, rfl⟩) (by assumption) ?_
        try simp only [Act.put, List.setIfInBounds_toArray, List.set_cons_zero, List.set_cons_succ]
        refine wpAnyH_take (i := 12) (oi := { dst := some 34, op := _, type := _, pos := _, after := _, guard := _ }) (v := undef) rfl (by kernel_rfl) (by kernel_rfl) (by kernel_rfl) (fun _ _ _ h => h) (Or.inr ⟨by kernel_rfl, rfl⟩) (by assumption) ?_
        try simp only [Act.put, List.setIfInBounds_toArray, List.set_cons_zero, List.set_cons_succ]
        refine wpAnyH_take (i := 13) (oi := { dst := some 35, op := _, type := _, pos := _, after := _, guard := _ }) (v := undef) rfl (by kernel_rfl) (by kernel_rfl) (by kernel_rfl) (fun _ _ _ h => h) (Or.inr ⟨by kernel_rfl, rfl⟩) (by assumption) ?_
        try simp only [Act.put, List.setIfInBounds_toArray, List.set_cons_zero, List.set_cons_succ]
        refine wpAnyH_take (i := 14) (oi := { dst := some 36, op := _, type := _, pos := _, after := _, guard := _ }) (v := undef) rfl (by kernel_rfl) (by kernel_rfl) (by kernel_rfl) (fun _ _ _ h => h) (Or.inr ⟨by kernel_rfl, rfl⟩) (by assumption) ?_
        try simp only [Act.put, List.setIfInBounds_toArray, List.set_cons_zero, List.set_cons_succ]
        refine wpAnyH_take (i := 15) (oi := { dst := some 37, op := _, type := _, pos := _, after := _, guard := _ }) (v := undef) rfl (by kernel_rfl) (by kernel_rfl) (by kernel_rfl) (fun _ _ _ h => h) (Or.inr ⟨by kernel_rfl, rfl⟩) (by assumption) ?_
        try simp only [Act.put, List.setIfInBounds_toArray, List.set_cons_zero, List.set_cons_succ]
        refine wpAnyH_take (i := 16) (oi := { dst := some 38, op := _, type := _, pos := _, after := _, guard := _ }) (v := undef) rfl (by kernel_rfl) (by kernel_rfl) (by kernel_rfl) (fun _ _ _ h => h) (Or.inr ⟨by kernel_rfl, rfl⟩) (by assumption) ?_
        try simp only [Act.put, List.setIfInBounds_toArray, List.set_cons_zero, List.set_cons_succ]
        refine wpAnyH_take (i := 17) (oi := { dst := some 39, op := _, type := _, pos := _, after := _, guard := _ }) (v := undef) rfl (by kernel_rfl) (by kernel_rfl) (by kernel_rfl) (fun _ _ _ h => h) (Or.inr ⟨by kernel_rfl, rfl⟩) (by assumption) ?_
        try simp only [Act.put, List.setIfInBounds_toArray, List.set_cons_zero, List.set_cons_succ]
        refine wpAnyH_take (i := 18) (oi := { dst := some 40, op := _, type := _, pos := _, after := _, guard := _ }) (v := undef) rfl (by kernel_rfl) (by kernel_rfl) (by kernel_rfl) (fun _ _ _ h => h) (Or.inr ⟨by kernel_rfl, rfl⟩) (by assumption) ?_
        try simp only [Act.put, List.setIfInBounds_toArray, List.set_cons_zero, List.set_cons_succ]
        refine wpAnyH_take (i := 19) (oi := { dst := some 41, op := _, type := _, pos := _, after := _, guard := _ }) (v := undef) rfl (by kernel_rfl) (by kernel_rfl) (by kernel_rfl) (fun _ _ _ h => h) (Or.inr ⟨by kernel_rfl, rfl⟩) (by assumption) ?_
        try simp only [Act.put, List.setIfInBounds_toArray, List.set_cons_zero, List.set_cons_succ]
        refine wpAnyH_take (i := 20) (oi := { dst := some 42, op := _, type := _, pos := _, after := _, guard := _ }) (v := ?vb20) rfl (by kernel_rfl) (by kernel_rfl) (by kernel_rfl) (fun _ _ _ h => h) (Or.inl ⟨by kernel_rfl, ?yb20⟩) (by assumption) ?rb20
        case yb20 => intro w hSw; (try dsimp only at hSw); go_simp; try with_reducible rfl
        try simp only [Act.put, List.setIfInBounds_toArray, List.set_cons_zero, List.set_cons_succ]
        refine wpAnyH_done (by kernel_rfl) ?_ _
        go_wp2
        go_ret
        exact ⟨by rw [Hv.out] <;> rfl, hHeld2⟩
      have hfa := freeAt_in (L := O.take j) e1
      obtain ⟨x1, x2⟩ := inB_true.1 e1
      obtain ⟨k, hk⟩ : ∃ k : Nat, x = (k : Int) := ⟨x.toNat, by omega⟩
      have hkl : k < ss.length := by omega
      rw [hk, Int.toNat_natCast] at hfa
      have HFree := Lib.hid (fun W ha hb => l9Free_c A c ss (some ⟨b, off, none⟩) d (O.take j) k W Hch.out hkl ha hb)
      rw [hts] at HFree
      rw [hk] at Hat Hyes Hno ⊢
      rw [hfa] at Hyes Hno
      clear e1 x1 x2 hk hfa
      refine wpAnyH_take (i := 8) (oi := { dst := some 30, op := _, type := _, pos := _, after := _, guard := _ }) (v := ?vc8) rfl (by kernel_rfl) (by kernel_rfl) (by kernel_rfl) (fun _ _ _ h => h) (Or.inl ⟨by kernel_rfl, ?yc8⟩) (by assumption) ?rc8
      case yc8 => intro w hSw; (try dsimp only at hSw); go_simp; try with_reducible rfl
      try simp only [Act.put, List.setIfInBounds_toArray, List.set_cons_zero, List.set_cons_succ]
      refine wpAnyH_take (i := 9) (oi := { dst := some 31, op := _, type := _, pos := _, after := _, guard := _ }) (v := ?vc9) rfl (by kernel_rfl) (by kernel_rfl) (by kernel_rfl) (fun _ _ _ h => h) (Or.inl ⟨by kernel_rfl, ?yc9⟩) (by assumption) ?rc9
      case yc9 => intro w hSw; (try dsimp only at hSw); go_simp; try with_reducible rfl
      try simp only [Act.put, List.setIfInBounds_toArray, List.set_cons_zero, List.set_cons_succ]
      refine wpAnyH_take (i := 10) (oi := { dst := some 32, op := _, type := _, pos := _, after := _, guard := _ }) (v := ?vc10) rfl (by kernel_rfl) (by kernel_rfl) (by kernel_rfl) (fun _ _ _ h => h) (Or.inl ⟨by kernel_rfl, ?yc10⟩) (by assumption) ?rc10
      case yc10 => intro w hSw; (try dsimp only at hSw); go_simp; try with_reducible rfl
      try simp only [Act.put, List.setIfInBounds_toArray, List.set_cons_zero, List.set_cons_succ]
      refine wpAnyH_take (i := 11) (oi := { dst := some 33, op := _, type := _, pos := _, after := _, guard := _ }) (v := ?vc11) rfl (by kernel_rfl) (by kernel_rfl) (by kernel_rfl) (fun _ _ _ h => h) (Or.inl ⟨by kernel_rfl, ?yc11⟩) (by assumption) ?rc11
      case yc11 => intro w hSw; (try dsimp only at hSw); go_simp; try with_reducible rfl
      try simp only [Act.put, List.setIfInBounds_toArray, List.set_cons_zero, List.set_cons_succ]
      refine wpAnyH_take (i := 12) (oi := { dst := some 34, op := _, type := _, pos := _, after := _, guard := _ }) (v := ?vc12) rfl (by kernel_rfl) (by kernel_rfl) (by kernel_rfl) (fun _ _ _ h => h) (Or.inl ⟨by kernel_rfl, ?yc12⟩) (by assumption) ?rc12
      case yc12 => intro w hSw; (try dsimp only at hSw); go_simp; try with_reducible rfl
      try simp only [Act.put, List.setIfInBounds_toArray, List.set_cons_zero, List.set_cons_succ]
      refine wpAnyH_take (i := 13) (oi := { dst := some 35, op := _, type := _, pos := _, after := _, guard := _ }) (v := ?vc13) rfl (by kernel_rfl) (by kernel_rfl) (by kernel_rfl) (fun _ _ _ h => h) (Or.inl ⟨by kernel_rfl, ?yc13⟩) (by assumption) ?rc13
      case yc13 => intro w hSw; (try dsimp only at hSw); go_simp; try with_reducible rfl
      try simp only [Act.put, List.setIfInBounds_toArray, List.set_cons_zero, List.set_cons_succ]
      refine wpAnyH_take (i := 14) (oi := { dst := some 36, op := _, type := _, pos := _, after := _, guard := _ }) (v := ?vc14) rfl (by kernel_rfl) (by kernel_rfl) (by kernel_rfl) (fun _ _ _ h => h) (Or.inl ⟨by kernel_rfl, ?yc14⟩) (by assumption) ?rc14
      case yc14 => intro w hSw; (try dsimp only at hSw); go_simp; try with_reducible rfl
      try simp only [Act.put, List.setIfInBounds_toArray, List.set_cons_zero, List.set_cons_succ]
      refine wpAnyH_take (i := 15) (oi := { dst := some 37, op := _, type := _, pos := _, after := _, guard := _ }) (v := ?vc15) rfl (by kernel_rfl) (by kernel_rfl) (by kernel_rfl) (fun _ _ _ h => h) (Or.inl ⟨by kernel_rfl, ?yc15⟩) (by assumption) ?rc15
      case yc15 => intro w hSw; (try dsimp only at hSw); go_simp; try with_reducible rfl
      try simp only [Act.put, List.setIfInBounds_toArray, List.set_cons_zero, List.set_cons_succ]
      refine wpAnyH_take (i := 16) (oi := { dst := some 38, op := _, type := _, pos := _, after := _, guard := _ }) (v := ?vc16) rfl (by kernel_rfl) (by kernel_rfl) (by kernel_rfl) (fun _ _ _ h => h) (Or.inl ⟨by kernel_rfl, ?yc16⟩) (by assumption) ?rc16
      case yc16 => intro w hSw; (try dsimp only at hSw); go_simp; try with_reducible rfl
      try simp only [Act.put, List.setIfInBounds_toArray, List.set_cons_zero, List.set_cons_succ]
      refine wpAnyH_take (i := 17) (oi := { dst := some 39, op := _, type := _, pos := _, after := _, guard := _ }) (v := ?vc17) rfl (by kernel_rfl) (by kernel_rfl) (by kernel_rfl) (fun _ _ _ h => h) (Or.inl ⟨by kernel_rfl, ?yc17⟩) (by assumption) ?rc17
      case yc17 => intro w hSw; have c0 := Hat.out _ hSw; (try dsimp only at hSw); go_simp; try with_reducible rfl
      try simp only [Act.put, List.setIfInBounds_toArray, List.set_cons_zero, List.set_cons_succ]
      refine wpAnyH_ready (rs := [18]) (by kernel_rfl) (by simp) ?_
      refine AllReadyH.cons (o := { dst := some 40, op := _, type := _, pos := _, after := _, guard := _ }) rfl (fun K hK => ?_) AllReadyH.nil
      go_simp
      refine (HFree.out _ (HA.out.go (by assumption)) ((HB.out.go (by assumption)).take j)).mono ?_
      rintro e w4 ⟨rfl, hb4⟩
      go_wp2_with fail
      refine hK.out _ _ (below_step hHeld2 hb4) (fun hHeld3 => ?_)
      clear hK K
      try simp only [Act.put, List.setIfInBounds_toArray, List.set_cons_zero, List.set_cons_succ]
      cases hf : freeB ss (O.take j) k
      · have Hv := Lib.hid (Hno.out hf)
        clear hf
        refine wpAnyH_take (i := 19) (oi := { dst := some 41, op := _, type := _, pos := _, after := _, guard := _ }) (v := ?vd19) rfl (by kernel_rfl) (by kernel_rfl) (by kernel_rfl) (fun _ _ _ h => h) (Or.inl ⟨by kernel_rfl, ?yd19⟩) (by assumption) ?rd19
        case yd19 => intro w hSw; (try dsimp only at hSw); go_simp; try with_reducible rfl
        try simp only [Act.put, List.setIfInBounds_toArray, List.set_cons_zero, List.set_cons_succ]
        refine wpAnyH_take (i := 20) (oi := { dst := some 42, op := _, type := _, pos := _, after := _, guard := _ }) (v := ?vd20) rfl (by kernel_rfl) (by kernel_rfl) (by kernel_rfl) (fun _ _ _ h => h) (Or.inl ⟨by kernel_rfl, ?yd20⟩) (by assumption) ?rd20
        case yd20 => intro w hSw; (try dsimp only at hSw); go_simp; try with_reducible rfl
        try simp only [Act.put, List.setIfInBounds_toArray, List.set_cons_zero, List.set_cons_succ]
        refine wpAnyH_done (by kernel_rfl) ?_ _
        go_wp2
        go_ret
        exact ⟨by rw [Hv.out] <;> rfl, hHeld3⟩
      · have Hn := Lib.hid (Hyes.out hf)
        clear hf
        refine wpAnyH_take (i := 19) (oi := { dst := some 41, op := _, type := _, pos := _, after := _, guard := _ }) (v := ?ve19) rfl (by kernel_rfl) (by kernel_rfl) (by kernel_rfl) (fun _ _ _ h => h) (Or.inl ⟨by kernel_rfl, ?ye19⟩) (by assumption) ?re19
        case ye19 => intro w hSw; (try dsimp only at hSw); go_simp; try with_reducible rfl
        try simp only [Act.put, List.setIfInBounds_toArray, List.set_cons_zero, List.set_cons_succ]
        refine wpAnyH_take (i := 20) (oi := { dst := some 42, op := _, type := _, pos := _, after := _, guard := _ }) (v := ?ve20) rfl (by kernel_rfl) (by kernel_rfl) (by kernel_rfl) (fun _ _ _ h => h) (Or.inl ⟨by kernel_rfl, ?ye20⟩) (by assumption) ?re20
        case ye20 => intro w hSw; (try dsimp only at hSw); go_simp; try with_reducible rfl
        try simp only [Act.put, List.setIfInBounds_toArray, List.set_cons_zero, List.set_cons_succ]
        refine wpAnyH_done (by kernel_rfl) ?_ _
        go_wp2
        go_roundw
        case rel => exact ⟨j + 1, by omega, by go_num, Hn.out, hHeld3⟩
        case measure => simp [intOf]; omega
    · obtain rfl : j = O.length := by omega
      have Hv := Lib.hid (liftB_true.2 ⟨Hch.out, Hln.out, Ho.out⟩)
      go_wp2
      go_ret
      exact ⟨by rw [Hv.out] <;> rfl, Hb.out⟩

end Go.Proofs.Ytjboamhjfncgdaa
