/-
  CableKind of both.
-/
import Derived.Test.YtndpdoiomoefpaaCMiles
namespace Go.Proofs.Ytndpdoiomoefpaa
open Go.RowKit

def kindI (ss : List Sec) (x : Int) : Int := if cabB ss && decide (0 ≤ x) then kindAt ss x else -1
theorem kindI_no {ss : List Sec} (h : cabB ss = false) (x : Int) : kindI ss x = -1 := by unfold kindI; rw [h]; rfl
theorem kindI_neg {ss : List Sec} {x : Int} (h : x < 0) : kindI ss x = -1 := by
  have : decide (0 ≤ x) = false := by simp; omega
  unfold kindI
  rw [this]
  simp
theorem kindI_yes {ss : List Sec} {x : Int} (h : cabB ss = true) (hx : 0 ≤ x) : kindI ss x = kindAt ss x := by
  have : decide (0 ≤ x) = true := by simp; omega
  unfold kindI
  rw [h, this]
  rfl
theorem kindI_out {ss : List Sec} {x : Int} (h : cabB ss = true) (hx : milesL ss ≤ x) : kindI ss x = -1 := by
  have := cab_miles h
  rw [kindI_yes h (by omega)]
  exact kindAt_out x hx (cabB_true.1 h).2

set_option maxRecDepth 100000 in
set_option maxHeartbeats 2000000 in
theorem implCableKind_b (A : Option Addr) (c : Nat) (ss : List Sec) (x : Int) (w : World) (ha : ArgC w A c ss) (hx1 : x ≤ 9223372036854775807) :
    Calls Try.prog 51 #[.slice A ss.length c, .int .i64 x] w (RetB (.int .i64 (kindI ss x)) w) := by
  have HA := Lib.hid ha
  clear ha
  cases hv : cabB ss
  · have Hv := Lib.hid hv
    clear hv
    go_enter Try.func51, Try.ntmps51
    go_wp2_with fail
    refine (chainOf_no A c ss _ HA.out Hv.out).mono ?_
    rintro e w1 ⟨rfl, hb⟩
    have Hb := Lib.hid hb
    clear hb
    go_wp2
    go_ret
    exact ⟨by rw [kindI_no Hv.out]; rfl, Hb.out⟩
  by_cases hx0 : x < 0
  · have Hv := Lib.hid hv
    clear hv
    go_enter Try.func51, Try.ntmps51
    go_wp2_with fail
    refine (chainOf_yes A c ss _ HA.out Hv.out).mono ?_
    rintro e w1 ⟨C, ns, rfl, hn, hC, hb⟩
    dsimp only
    have Hb := Lib.hid hb
    clear hb hC hn
    have g0 : decide (x < 0) = true := by simp; omega
    go_wp2
    go_ret
    exact ⟨by rw [kindI_neg hx0]; rfl, Hb.out⟩
  · have Hv := Lib.hid hv
    have hl := (cab_len hv).2
    clear hv
    have hx : 0 ≤ x := by omega
    have g0 : decide (x < 0) = false := by simp; omega
    go_enter Try.func51, Try.ntmps51
    go_wp2_with fail
    refine (chainOf_yes A c ss _ HA.out Hv.out).mono ?_
    rintro e w1 ⟨C, ns, rfl, hn, hC, hb⟩
    dsimp only
    have hc0 := hC.c0
    obtain ⟨u, hu⟩ := nxt_pointer ns
    rw [hu] at hc0
    have Hu := Lib.hid hu
    have Hb := Lib.hid hb
    have HC := Lib.hid hC
    have Hn := Lib.hid hn
    clear hb hC hn hu
    go_wp2
    go_loopg [1, 7] ns.length (fun k o l wr => w1 = wr ∧ ∃ (xs ys : List (Nat × Sec)) (y : Int), ns = xs ++ ys ∧ ys.length = k ∧ l = nxt ys ∧ o = .int .i64 y ∧ 0 ≤ y ∧ y ≤ x ∧ kindAt ss x = kindAt (secs ys) y)
    case atStart => exact ⟨rfl, [], ns, x, rfl, rfl, Hu.out.symm, rfl, hx, Int.le_refl _, by rw [Hn.out]⟩
    case round =>
      obtain ⟨rfl, xs, ys, y, hsp, hk, rfl, rfl, hy0, hy1, hwa⟩ := hrel
      have Hsp := Lib.hid hsp
      have Hk := Lib.hid hk
      have Hwa := Lib.hid hwa
      clear hsp hk hwa
      cases ys with
      | nil =>
        rw [nxt_nil]
        go_wp2
        go_ret
        exact ⟨by rw [kindI_yes Hv.out hx, Hwa.out]; rfl, Hb.out⟩
      | cons z ys' =>
        obtain ⟨v, hv⟩ := nxt_pointer ys'
        have hseg := HC.out.seg
        rw [Hsp.out] at hseg
        have hm := hseg.mid
        have hm0 := hm.c0
        have hm1 := hm.c1
        have hm3 := hm.c3
        rw [hv] at hm3
        have he := split_secs Hsp.out Hn.out
        have hb := miles_part (by rw [← he]; exact small_mono (cab_small Hv.out) (by omega)) (by rw [← he]; omega)
        obtain ⟨_, _, b3, b4⟩ := hb
        have Hv2 := Lib.hid hv
        have Hwa2 := Lib.hid (show kindAt ss x = kindAt (z.2 :: secs ys') y from Hwa.out)
        clear hv hm hseg he Hwa
        rw [nxt_cons]
        by_cases hc : y < z.2.m
        · have Hst := Lib.hid (Hwa2.out.trans (kindAt_here hc))
          go_wp2
          go_ret
          exact ⟨by rw [kindI_yes Hv.out hx, Hst.out]; rfl, Hb.out⟩
        · have Hst := Lib.hid (Hwa2.out.trans (kindAt_on hc))
          go_wp2
          go_roundg ys'.length
          case measure => have := Hk.out; simp at this; omega
          case rel => exact ⟨rfl, xs ++ [z], ys', y - z.2.m, by rw [Hsp.out]; simp, rfl, Hv2.out.symm, rfl, by omega, by omega, Hst.out⟩

/-- WHAT l2At LEAVES: a section of the kind of the mile. -/
def RetAt (ss : List Sec) (x : Int) (w : World) (e : Ending) (w' : World) : Prop := ∃ s : Sec, e = .returned (.agg #[.int .i64 s.m, .int .i64 s.k, .int .i64 s.o]) ∧ s.k = kindAt ss x ∧ Below w.heap.size w w'

theorem drop_at {ss : List Sec} {k : Nat} (h : k < ss.length) : ss.drop k = secAt ss k :: ss.drop (k + 1) := by rw [secAt_lt h, List.getElem_cons_drop]

set_option maxRecDepth 100000 in
set_option maxHeartbeats 2000000 in
theorem l2At_c (A : Option Addr) (c : Nat) (ss : List Sec) (x : Int) (w : World) (ha : ArgC w A c ss) (hv : cabB ss = true) (hx0 : 0 ≤ x) (hx1 : x < milesL ss) :
    Calls Try.prog 105 #[.slice A ss.length c, .int .i64 x] w (RetAt ss x w) := by
  have HA := Lib.hid (ha.go ((Below.refl _ _).alloc (Nat.le_refl _) (.cells #[.int .i64 0, .int .i64 0, .int .i64 0] 54)))
  have Hv := Lib.hid hv
  have hm := (cab_miles hv).2
  have hl := (cab_len hv).2
  clear ha hv
  go_enter Try.func105, Try.ntmps105
  go_wp2
  go_loop [1, 5] (fun o q => ∃ (k : Nat) (y : Int), k ≤ ss.length ∧ q = .int .i64 k ∧ o = .int .i64 y ∧ 0 ≤ y ∧ y < milesL (ss.drop k) ∧ kindAt ss x = kindAt (ss.drop k) y) (fun _ q => ss.length - (intOf q).toNat)
  case atStart => exact ⟨0, x, Nat.zero_le _, rfl, rfl, hx0, hx1, rfl⟩
  case round =>
    obtain ⟨k, y, hk, rfl, rfl, hy0, hy1, hka⟩ := hrel
    have hlt : k < ss.length := by
      rcases Nat.lt_or_ge k ss.length with h | h
      · exact h
      · rw [List.drop_of_length_le h, milesL_nil] at hy1
        omega
    rw [drop_at hlt] at hka hy1
    obtain ⟨b, off, rfl, _, hbw, hc0, hc1, hc2⟩ := HA.out.rd.at_ hlt
    have b2 := cab_small Hv.out _ (secAt_mem hlt)
    have hdr : milesL (ss.drop (k + 1)) ≤ 400 := by
      have h1 := milesL_bd (B := 50) (ss := ss.drop (k + 1)) (fun s hs => cab_small Hv.out s (List.mem_of_mem_drop hs))
      simp only [List.length_drop] at h1
      omega
    obtain ⟨s, hs⟩ : ∃ s, secAt ss k = s := ⟨_, rfl⟩
    rw [hs] at hc0 hc1 hc2 b2 hka hy1
    rw [milesL_cons] at hy1
    have Hka := Lib.hid hka
    obtain ⟨b3, b4, _⟩ := b2
    have g1 : (k : Int) < (ss.length : Int) := by omega
    clear hs hka
    by_cases hc : y < s.m
    · have Hst := Lib.hid (Hka.out.trans (kindAt_here hc))
      go_wp2
      exact bodyPost_ret (v := .agg #[.int .i64 s.m, .int .i64 s.k, .int .i64 s.o]) (by simp [results, Try.results105, go_sem]) rfl ⟨s, rfl, Hst.out.symm, (Below.refl _ _).alloc (Nat.le_refl _) _⟩
    · have Hst := Lib.hid (Hka.out.trans (kindAt_on hc))
      go_wp2
      go_round
      case rel => exact ⟨k + 1, y - s.m, by omega, by go_num, rfl, by omega, by omega, Hst.out⟩
      case measure => simp [intOf]; omega

set_option maxRecDepth 100000 in
set_option maxHeartbeats 1000000 in
theorem specCableKind_b (A : Option Addr) (c : Nat) (ss : List Sec) (x : Int) (w : World) (ha : ArgC w A c ss) :
    Calls Try.prog 60 #[.slice A ss.length c, .int .i64 x] w (RetB (.int .i64 (kindI ss x)) w) := by
  have HA := Lib.hid ha
  clear ha
  have hmb : -1 ≤ milesI ss ∧ milesI ss ≤ 400 := by
    cases hv : cabB ss
    · rw [milesI_no hv]; omega
    · rw [milesI_yes hv]; have := cab_miles hv; omega
  obtain ⟨hm0, hm1⟩ := hmb
  cases hi : inB x 0 (milesI ss - 1)
  · have hno : kindI ss x = -1 := by
      cases hv : cabB ss
      · exact kindI_no hv x
      · rw [milesI_yes hv] at hi
        rcases inB_false.1 hi with h | h
        · exact kindI_neg h
        · exact kindI_out hv (by omega)
    have Hno := Lib.hid hno
    have Hi := Lib.hid hi
    clear hi hno
    go_enter Try.func60, Try.ntmps60
    go_wp2_with fail
    refine (specCableMiles_b A c ss _ HA.out).mono ?_
    rintro e w1 ⟨rfl, hb⟩
    have Hb := Lib.hid hb
    clear hb
    go_wp2_with fail
    refine (l6In_c _ _ _ _).mono ?_
    rintro e w2 ⟨rfl, rfl⟩
    rw [Hi.out]
    go_wp2
    go_ret
    exact ⟨by rw [Hno.out]; rfl, Hb.out⟩
  · have hv : cabB ss = true := by
      cases hv : cabB ss
      · rw [milesI_no hv, inB_true] at hi; omega
      · rfl
    have Hv := Lib.hid hv
    have hx := inB_true.1 hi
    rw [milesI_yes hv] at hx
    obtain ⟨hx0, hx1⟩ := hx
    have Hi := Lib.hid hi
    clear hi hv
    go_enter Try.func60, Try.ntmps60
    go_wp2_with fail
    refine (specCableMiles_b A c ss _ HA.out).mono ?_
    rintro e w1 ⟨rfl, hb⟩
    have Hb := Lib.hid hb
    clear hb
    go_wp2_with fail
    refine (l6In_c _ _ _ _).mono ?_
    rintro e w2 ⟨rfl, rfl⟩
    rw [Hi.out]
    go_wp2_with fail
    refine (l2At_c A c ss x _ (HA.out.go Hb.out) Hv.out hx0 (by omega)).mono ?_
    rintro e w3 ⟨s, rfl, hs, hb3⟩
    have Hb3 := Lib.hid (below_step Hb.out hb3)
    have Hs := Lib.hid hs
    clear hb3 hs
    have hfd : ∀ W : World, (Instr.field 54 (.agg #[.int .i64 s.m, .int .i64 s.k, .int .i64 s.o]) 1).run Try.prog W = .ok (.int .i64 s.k) W := fun _ => by kernel_rfl
    go_wp2
    go_ret
    exact ⟨by rw [kindI_yes Hv.out hx0, ← Hs.out]; rfl, Hb3.out⟩

end Go.Proofs.Ytndpdoiomoefpaa
