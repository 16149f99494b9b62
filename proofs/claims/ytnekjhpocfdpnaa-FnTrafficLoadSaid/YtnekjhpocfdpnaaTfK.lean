/-
  CutOf of both.
-/
import Derived.Test.YtnekjhpocfdpnaaTfO
import Derived.Test.YtnekjhpocfdpnaaTfC
namespace Go.Proofs.Ytnekjhpocfdpnaa
open Go.RowKit

theorem sd_no1 {n f t : Int} {S : List Int} (h : ¬ (S.length : Int) = n) : sideB n f t S = false := by unfold sideB; rw [decide_eq_false h]; rfl
theorem sd_no2 {n f t : Int} {S : List Int} (h : S.all (fun x => inB x 0 1) = false) : sideB n f t S = false := by unfold sideB; rw [h, Bool.and_false]; rfl
theorem sd_no3 {n f t : Int} {S : List Int} (h : ¬ sdAt S f = 1) : sideB n f t S = false := by unfold sideB; rw [decide_eq_false h, Bool.and_false]; rfl
theorem sd_no4 {n f t : Int} {S : List Int} (h : ¬ sdAt S t = 0) : sideB n f t S = false := by unfold sideB; rw [decide_eq_false h, Bool.and_false]
theorem sd_yes {n f t : Int} {S : List Int} (h1 : (S.length : Int) = n) (h2 : S.all (fun x => inB x 0 1) = true) (h3 : sdAt S f = 1) (h4 : sdAt S t = 0) : sideB n f t S = true := by
  unfold sideB; rw [decide_eq_true h1, h2, decide_eq_true h3, decide_eq_true h4]; rfl
theorem cut_no1 {n : Int} {N : List Lin} {f t : Int} {S : List Int} (h : endB n N f t = false) : cutV n N f t S = -1 := by unfold cutV; rw [h]; rfl
theorem cut_no2 {n : Int} {N : List Lin} {f t : Int} {S : List Int} (h : sideB n f t S = false) : cutV n N f t S = -1 := by unfold cutV; rw [h, Bool.and_false]; rfl
/-- the first k are 0 or 1 -/
def zoTo (S : List Int) (k : Nat) : Prop := (S.take k).all (fun x => inB x 0 1) = true
theorem zoTo_zero (S : List Int) : zoTo S 0 := by simp [zoTo]
theorem zoTo_succ {S : List Int} {k : Nat} (h : zoTo S k) (hk : k < S.length) (hp : inB (sdAt S (k : Int)) 0 1 = true) : zoTo S (k + 1) := by
  have e : sdAt S (k : Int) = S[k] := by simp [sdAt, hk]
  rw [e] at hp
  unfold zoTo at *
  rw [List.take_succ_eq_append_getElem hk, List.all_append, h]; simp [hp]
theorem zoTo_not {S : List Int} {k : Nat} (hk : k < S.length) (hp : inB (sdAt S (k : Int)) 0 1 = false) : S.all (fun x => inB x 0 1) = false := by
  have e : sdAt S (k : Int) = S[k] := by simp [sdAt, hk]
  rw [e] at hp
  apply Bool.eq_false_iff.2
  intro h
  rw [List.all_eq_true] at h
  have := h _ (List.getElem_mem hk)
  rw [hp] at this; cases this
theorem zoTo_all {S : List Int} (h : zoTo S S.length) : S.all (fun x => inB x 0 1) = true := by
  unfold zoTo at h
  rwa [List.take_length] at h
theorem sd_cell {W : World} {A : Option Addr} {c : Nat} {S : List Int} (h : Arg W A c S) {x : Nat} (hx : x < S.length) : ∃ b off, A = some ⟨b, off, none⟩ ∧ b < W.heap.size ∧ W.cell? ⟨b, off + x, none⟩ = some (.int .i64 (sdAt S (x : Int))) := by
  obtain ⟨b, off, e, _, hb, hc⟩ := h.rd.at_ hx
  exact ⟨b, off, e, hb, by rw [hc]; rfl⟩

set_option maxRecDepth 100000 in
set_option maxHeartbeats 1000000 in
theorem allIn01_c (A : Option Addr) (c : Nat) (S : List Int) (w : World) (ha : Arg w A c S) :
    Calls Try.prog 46 #[.slice A S.length c, .int .i64 0, .int .i64 1] w fun e w' => e = .returned (.bool (S.all (fun x => inB x 0 1))) ∧ w = w' := by
  have hl := ha.len
  have HA := Lib.hid ha
  clear ha
  go_enter Try.func46, Try.ntmps46
  go_wp2
  go_loop [11] (fun i => ∃ k : Nat, k ≤ S.length ∧ zoTo S k ∧ i = .int .i64 k) (fun i => S.length - (intOf i).toNat)
  case atStart => exact ⟨0, Nat.zero_le _, zoTo_zero _, rfl⟩
  case round =>
    obtain ⟨k, hk, ho, rfl⟩ := hrel
    have Ho := Lib.hid ho
    clear ho
    by_cases hlt : k < S.length
    · obtain ⟨b, off, rfl, _, hc⟩ := sd_cell HA.out hlt
      have hyes := fun h => zoTo_succ Ho.out hlt h
      have hno := fun h => zoTo_not hlt h
      obtain ⟨s, hs⟩ : ∃ s, sdAt S (k : Int) = s := ⟨_, rfl⟩
      rw [hs] at hc hyes hno
      have Hyes := Lib.hid hyes
      have Hno := Lib.hid hno
      clear hs hyes hno
      have g3 : (k : Int) < (S.length : Int) := by omega
      go_wp2_with fail
      refine (inRange_c _ _ _ _).mono ?_
      rintro e w' ⟨rfl, rfl⟩
      cases e1 : inB s 0 1
      · have Hn := Lib.hid (Hno.out e1)
        clear e1
        go_wp2
        go_ret
        exact ⟨by rw [Hn.out] <;> rfl, rfl⟩
      have Hn := Lib.hid (Hyes.out e1)
      clear e1
      go_wp2
      go_round
      case rel => exact ⟨k + 1, by omega, Hn.out, by go_num⟩
      case measure => simp [intOf]; omega
    · obtain rfl : k = S.length := by omega
      have Hn := Lib.hid (zoTo_all Ho.out)
      go_wp2
      go_ret
      exact ⟨by rw [Hn.out] <;> rfl, rfl⟩

set_option maxRecDepth 100000 in
set_option maxHeartbeats 1000000 in
theorem sideValid_c (n : Nat) (fn tn : Nat) (A : Option Addr) (c : Nat) (S : List Int) (w : World) (ha : Arg w A c S) (hf : fn < n) (ht : tn < n) :
    Calls Try.prog 32 #[.int .i64 (n : Int), .int .i64 (fn : Int), .int .i64 (tn : Int), .slice A S.length c] w fun e w' => e = .returned (.bool (sideB (n : Int) (fn : Int) (tn : Int) S)) ∧ w = w' := by
  have hl := ha.len
  have HA := Lib.hid ha
  clear ha
  by_cases h1 : (S.length : Int) = (n : Int)
  · have q1 : ((S.length : Int) == (n : Int)) = true := by simp [h1]
    have hfs : fn < S.length := by omega
    have hts : tn < S.length := by omega
    obtain ⟨b, off, rfl, _, cf⟩ := sd_cell HA.out hfs
    obtain ⟨b', off', e', _, ct⟩ := sd_cell HA.out hts
    injection e' with e'
    injection e' with e1 e2 _
    subst e1; subst e2
    have g1 : (fn : Int) < (S.length : Int) := by omega
    have g2 : (tn : Int) < (S.length : Int) := by omega
    have H1 := Lib.hid h1
    clear h1
    obtain ⟨sf, hsf⟩ : ∃ s, sdAt S (fn : Int) = s := ⟨_, rfl⟩
    obtain ⟨st, hst⟩ : ∃ s, sdAt S (tn : Int) = s := ⟨_, rfl⟩
    rw [hsf] at cf
    rw [hst] at ct
    have Hsf := Lib.hid hsf
    have Hst := Lib.hid hst
    clear hsf hst
    go_enter Try.func32, Try.ntmps32
    go_wp2_with fail
    refine (allIn01_c _ _ _ _ HA.out).mono ?_
    rintro e w' ⟨rfl, rfl⟩
    cases e2 : S.all (fun x => inB x 0 1)
    · have N := Lib.hid (sd_no2 (n := (n : Int)) (f := (fn : Int)) (t := (tn : Int)) e2)
      clear e2
      go_wp2
      go_ret
      exact ⟨by rw [N.out] <;> rfl, rfl⟩
    have E2 := Lib.hid e2
    clear e2
    by_cases h3 : sf = 1
    · have q3 : (sf == 1) = true := by simp [h3]
      have H3 := Lib.hid h3
      clear h3
      by_cases h4 : st = 0
      · have q4 : (st == 0) = true := by simp [h4]
        have N := Lib.hid (sd_yes H1.out E2.out (Hsf.out.trans H3.out) (Hst.out.trans h4))
        clear h4
        go_wp2
        go_ret
        exact ⟨by rw [N.out] <;> rfl, rfl⟩
      · have q4 : (st == 0) = false := by simp [h4]
        have N := Lib.hid (sd_no4 (n := (n : Int)) (f := (fn : Int)) (t := (tn : Int)) (S := S) (by rw [Hst.out]; exact h4))
        clear h4
        go_wp2
        go_ret
        exact ⟨by rw [N.out] <;> rfl, rfl⟩
    · have q3 : (sf == 1) = false := by simp [h3]
      have N := Lib.hid (sd_no3 (n := (n : Int)) (f := (fn : Int)) (t := (tn : Int)) (S := S) (by rw [Hsf.out]; exact h3))
      clear h3
      go_wp2
      go_ret
      exact ⟨by rw [N.out] <;> rfl, rfl⟩
  · have q1 : ((S.length : Int) == (n : Int)) = false := by simp; omega
    have N := Lib.hid (sd_no1 (f := (fn : Int)) (t := (tn : Int)) h1)
    clear h1
    go_enter Try.func32, Try.ntmps32
    go_wp2
    go_ret
    exact ⟨by rw [N.out] <;> rfl, rfl⟩

theorem cut_yes {n : Int} {N : List Lin} {S : List Int} {k : Nat} {v : Bool} (h : (sdAt S (linAt N k).a != sdAt S (linAt N k).b) = v) : cutT N S (k + 1) = cutT N S k + (if v then (linAt N k).c else 0) := by
  have _ := n
  rw [cutT]
  cases v
  · rw [if_pos (by simpa using h)]; rfl
  · rw [if_neg (by simpa using h)]; rfl

set_option maxRecDepth 100000 in
set_option maxHeartbeats 4000000 in
theorem implCutOf_b (n f t : Int) (A B : Option Addr) (c d : Nat) (ss : List Lin) (S : List Int) (w : World) (ha : ArgL w A c ss) (hb : Arg w B d S) :
    Calls Try.prog 14 #[.int .i64 n, .slice A ss.length c, .int .i64 f, .int .i64 t, .slice B S.length d] w (RetB (.int .i64 (cutV n ss f t S)) w) := by
  have hl := ha.len
  have HA := Lib.hid ha
  have HB := Lib.hid hb
  clear ha hb
  go_enter Try.func14, Try.ntmps14
  go_wp2_with fail
  refine (ends_c _ _ _ _ _ _ _ HA.out).mono ?_
  rintro e w1 ⟨rfl, hb1⟩
  have Hb1 := Lib.hid hb1
  have HA1 := Lib.hid (HA.out.go hb1)
  have HB1 := Lib.hid (HB.out.go hb1)
  clear hb1
  cases e1 : endB n ss f t
  · have N := Lib.hid (cut_no1 (S := S) e1)
    clear e1
    go_wp2
    go_ret
    exact ⟨by rw [N.out] <;> rfl, Hb1.out⟩
  have E1 := Lib.hid e1
  have hn := (endB_true.1 e1).1
  have h10 := (netB_true.1 hn).2.1
  have Hn := Lib.hid hn
  obtain ⟨m, rfl, hm, hf, ht, _⟩ := ends_nat e1
  obtain ⟨fn, rfl⟩ : ∃ fn : Nat, f = (fn : Int) := ⟨f.toNat, by omega⟩
  obtain ⟨tn, rfl⟩ : ∃ tn : Nat, t = (tn : Int) := ⟨t.toNat, by omega⟩
  have hfm : fn < m := by omega
  have htm : tn < m := by omega
  clear e1 hn hf ht
  go_wp2_with fail
  refine (sideValid_c m fn tn _ _ _ _ HB1.out hfm htm).mono ?_
  rintro e w' ⟨rfl, rfl⟩
  cases e2 : sideB (m : Int) (fn : Int) (tn : Int) S
  · have N := Lib.hid (cut_no2 (N := ss) e2)
    clear e2
    go_wp2
    go_ret
    exact ⟨by rw [N.out] <;> rfl, Hb1.out⟩
  have N := Lib.hid (cutV_yes E1.out e2)
  have hSl : S.length = m := by have := (sideB_true.1 e2).1; omega
  have HSl := Lib.hid hSl
  clear e2 hSl
  go_wp2
  go_loopw [11, 30] (fun q i wr => ∃ k : Nat, k ≤ ss.length ∧ i = .int .i64 k ∧ q = .int .i64 (cutT ss S k) ∧ Below w1.heap.size w1 wr) (fun _ i _ => ss.length - (intOf i).toNat)
  case atStart => exact ⟨0, Nat.zero_le _, rfl, rfl, Below.refl _ _⟩
  case round =>
    obtain ⟨k, hk, rfl, rfl, hb⟩ := hrel
    have Hb := Lib.hid hb
    clear hb
    have hbd := cutT_bd (S := S) Hn.out k hk
    by_cases hlt : k < ss.length
    · obtain ⟨b1, off1, rfl, _, hb1, hc0, hc1, hc2⟩ := (HA1.out.rd.below Hb.out).at_ hlt
      have hnt := netB_at Hn.out hlt
      have hcy := fun v h => cut_yes (n := 0) (N := ss) (S := S) (k := k) (v := v) h
      obtain ⟨xa, hxa⟩ : ∃ xa : Nat, (linAt ss k).a = (xa : Int) := ⟨_, (Int.toNat_of_nonneg hnt.1.1.1).symm⟩
      obtain ⟨xb, hxb⟩ : ∃ xb : Nat, (linAt ss k).b = (xb : Int) := ⟨_, (Int.toNat_of_nonneg hnt.1.2.1.1).symm⟩
      rw [hxa] at hc0 hnt hcy
      rw [hxb] at hc1 hnt hcy
      have hxaS : xa < S.length := by rw [HSl.out]; omega
      have hxbS : xb < S.length := by rw [HSl.out]; omega
      obtain ⟨b2, off2, rfl, _, ca⟩ := sd_cell (HB1.out.go Hb.out) hxaS
      obtain ⟨b', off', e', _, cb⟩ := sd_cell (HB1.out.go Hb.out) hxbS
      injection e' with e'
      injection e' with e1 e2 _
      subst e1; subst e2
      obtain ⟨va, hva⟩ : ∃ v, sdAt S (xa : Int) = v := ⟨_, rfl⟩
      obtain ⟨vb, hvb⟩ : ∃ v, sdAt S (xb : Int) = v := ⟨_, rfl⟩
      obtain ⟨cc, hcc⟩ : ∃ v, (linAt ss k).c = v := ⟨_, rfl⟩
      obtain ⟨T, hT⟩ : ∃ v, cutT ss S k = v := ⟨_, rfl⟩
      rw [hva] at ca hcy
      rw [hvb] at cb hcy
      rw [hcc] at hc2 hnt hcy
      rw [hT] at hbd hcy ⊢
      have Hcy := Lib.hid hcy
      obtain ⟨p1, p2⟩ := hbd
      have p3 := hnt.2.1
      have p4 := hnt.2.2
      have p5 : T ≤ 90 := by omega
      have g3 : (k : Int) < (ss.length : Int) := by omega
      have g4 : (xa : Int) < (S.length : Int) := by omega
      have g5 : (xb : Int) < (S.length : Int) := by omega
      clear hva hvb hcc hT hcy hxa hxb hnt p2
      by_cases h1 : va = vb
      · have q1 : (va != vb) = false := by simp [h1]
        have q2 : (vb != va) = false := by simp [h1]
        have M := Lib.hid (Hcy.out false q1)
        clear h1
        go_wp2
        go_quiet (fail)
        go_wp2
        go_roundw
        case rel => exact ⟨k + 1, by omega, by go_num, by rw [M.out]; simp, below_drewN (Hb.out.alloc Hb.out.size _) _⟩
        case measure => simp [intOf]; omega
      · have q1 : (va != vb) = true := by simp [h1]
        have q2 : (vb != va) = true := by simpa using fun e => h1 e.symm
        have M := Lib.hid (Hcy.out true q1)
        clear h1
        go_wp2
        go_quiet (fail)
        go_wp2
        go_roundw
        case rel => exact ⟨k + 1, by omega, by go_num, by rw [M.out]; simp, below_drewN (Hb.out.alloc Hb.out.size _) _⟩
        case measure => simp [intOf]; omega
    · obtain rfl : k = ss.length := by omega
      clear hbd
      go_wp2
      go_ret
      exact ⟨by rw [N.out] <;> rfl, below_step Hb1.out Hb.out⟩

end Go.Proofs.Ytnekjhpocfdpnaa
