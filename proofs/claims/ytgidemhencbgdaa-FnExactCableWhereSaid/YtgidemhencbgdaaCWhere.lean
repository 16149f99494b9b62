/-
  CableAll of the model, CableWhere of both.
-/
import Derived.Test.YtgidemhencbgdaaCMiles
namespace Go.Proofs.Ytgidemhencbgdaa
open Go.RowKit

theorem ohmsI_miles (ss : List Sec) : ohmsI ss (milesI ss) = allI ss := by
  cases hv : cabB ss
  · rw [ohmsI_no hv, allI_no hv]
  · have hm := cab_miles hv
    rw [milesI_yes hv, allI_yes hv, ohmsI_in hv (inB_true.2 (by omega)), ohmsTo_all (cab_small hv)]

theorem specCableAll_b (A : Option Addr) (c : Nat) (ss : List Sec) (w : World) (ha : ArgC w A c ss) :
    Calls Try.prog 27 #[.slice A ss.length c] w (RetB (.int .i64 (allI ss)) w) := by
  have HA := Lib.hid ha
  have Hm := Lib.hid (ohmsI_miles ss)
  clear ha
  go_enter Try.func27, Try.ntmps27
  go_wp2_with fail
  refine (specCableMiles_b A c ss _ HA.out).mono ?_
  rintro e w1 ⟨rfl, hb⟩
  have Hb := Lib.hid hb
  have HA1 := Lib.hid (HA.out.go hb)
  clear hb
  go_wp2_with fail
  refine (specCableOhms_b A c ss (milesI ss) _ HA1.out).mono ?_
  rintro e w2 ⟨rfl, hb⟩
  have Hb2 := Lib.hid (below_step Hb.out hb)
  clear hb
  go_wp2
  go_ret
  exact ⟨by rw [← Hm.out]; rfl, Hb2.out⟩

/-- what CableWhere hands back -/
def whereV (ss : List Sec) (x : Int) : Value := if cabB ss && decide (0 ≤ x) then .tuple #[.int .i64 (whereL ss x).1, .int .i64 (whereL ss x).2, .bool true] else .tuple #[.int .i64 0, .int .i64 0, .bool false]
theorem whereV_no {ss : List Sec} (h : cabB ss = false) (x : Int) : whereV ss x = .tuple #[.int .i64 0, .int .i64 0, .bool false] := by unfold whereV; rw [h]; rfl
theorem whereV_neg {ss : List Sec} {x : Int} (h : x < 0) : whereV ss x = .tuple #[.int .i64 0, .int .i64 0, .bool false] := by
  have : decide (0 ≤ x) = false := by simp; omega
  unfold whereV
  rw [this]
  simp
theorem whereV_yes {ss : List Sec} {x : Int} (h : cabB ss = true) (hx : 0 ≤ x) : whereV ss x = .tuple #[.int .i64 (whereL ss x).1, .int .i64 (whereL ss x).2, .bool true] := by
  have : decide (0 ≤ x) = true := by simp; omega
  unfold whereV
  rw [h, this]
  rfl

/-- what is left of the search behind some sections -/
def WhereAt (ss : List Sec) (x : Int) (xs ys : List Sec) (y : Int) : Prop := whereL ss x = (milesL xs + (whereL ys y).1, (whereL ys y).2)
theorem WhereAt.start (ss : List Sec) (x : Int) : WhereAt ss x [] ss x := by unfold WhereAt; rw [milesL_nil, Int.zero_add]
theorem WhereAt.on {ss : List Sec} {x : Int} {xs ys : List Sec} {s : Sec} {y : Int} (h : WhereAt ss x xs (s :: ys) y) (hc : ¬ y / s.o < s.m) : WhereAt ss x (xs ++ [s]) ys (y - s.m * s.o) := by
  unfold WhereAt at h ⊢
  rw [h, whereL_on hc, milesL_snoc]
  dsimp only
  rw [Int.add_assoc]
theorem WhereAt.stop {ss : List Sec} {x : Int} {xs ys : List Sec} {s : Sec} {y : Int} (h : WhereAt ss x xs (s :: ys) y) (hc : y / s.o < s.m) : whereL ss x = (milesL xs + y / s.o, y - y / s.o * s.o) := by
  unfold WhereAt at h
  rw [h, whereL_stop hc]
theorem WhereAt.fin {ss : List Sec} {x : Int} {xs : List Sec} {y : Int} (h : WhereAt ss x xs [] y) : whereL ss x = (milesL xs, y) := by
  unfold WhereAt at h
  rw [h]
  simp [whereL]

set_option maxHeartbeats 2000000 in
theorem implCableWhere_b (A : Option Addr) (c : Nat) (ss : List Sec) (x : Int) (w : World) (ha : ArgC w A c ss) (hx1 : x ≤ 9223372036854775807) :
    Calls Try.prog 16 #[.slice A ss.length c, .int .i64 x] w (RetB (whereV ss x) w) := by
  have HA := Lib.hid ha
  clear ha
  cases hv : cabB ss
  · have Hv := Lib.hid hv
    clear hv
    go_enter Try.func16, Try.ntmps16
    go_wp2_with fail
    refine (chainOf_no A c ss _ HA.out Hv.out).mono ?_
    rintro e w1 ⟨rfl, hb⟩
    have Hb := Lib.hid hb
    clear hb
    go_wp2
    go_ret3
    exact ⟨by rw [whereV_no Hv.out]; rfl, Hb.out⟩
  by_cases hx0 : x < 0
  · have Hv := Lib.hid hv
    clear hv
    go_enter Try.func16, Try.ntmps16
    go_wp2_with fail
    refine (chainOf_yes A c ss _ HA.out Hv.out).mono ?_
    rintro e w1 ⟨C, ns, rfl, hn, hC, hb⟩
    dsimp only
    have Hb := Lib.hid hb
    clear hb hC hn
    have g0 : decide (x < 0) = true := by simp; omega
    go_wp2
    go_ret3
    exact ⟨by rw [whereV_neg hx0]; rfl, Hb.out⟩
  · have Hv := Lib.hid hv
    have hl := (cab_len hv).2
    have hm := (cab_miles hv).2
    clear hv
    have hx : 0 ≤ x := by omega
    have g0 : decide (x < 0) = false := by simp; omega
    go_enter Try.func16, Try.ntmps16
    go_wp2_with fail
    refine (chainOf_yes A c ss _ HA.out Hv.out).mono ?_
    rintro e w1 ⟨C, ns, rfl, hn, hC, hb⟩
    dsimp only
    have hc0 := hC.c0
    obtain ⟨u, hu⟩ := nxt_pointer ns
    rw [hu] at hc0
    have Hu := Lib.hid hu
    have Hb := Lib.hid hb
    have HC := Lib.hid hC
    have Hn := Lib.hid hn
    clear hb hC hn hu
    go_wp2
    go_loopg [1, 9, 10] ns.length (fun k o m l wr => (Chain (fun k => w.heap.size ≤ k) wr C ns ∧ Below w.heap.size w wr) ∧ ∃ (xs ys : List (Nat × Sec)) (y : Int), ns = xs ++ ys ∧ ys.length = k ∧ l = nxt ys ∧ m = .int .i64 (milesL (secs xs)) ∧ o = .int .i64 y ∧ 0 ≤ y ∧ y ≤ x ∧ WhereAt ss x (secs xs) (secs ys) y)
    case atStart => exact ⟨⟨HC.out, Hb.out⟩, [], ns, x, rfl, rfl, Hu.out.symm, rfl, rfl, hx, Int.le_refl _, by rw [Hn.out]; exact WhereAt.start _ _⟩
    case round =>
      clear HC Hb
      obtain ⟨⟨hC, hb⟩, xs, ys, y, hsp, hk, rfl, rfl, rfl, hy0, hy1, hwa⟩ := hrel
      have HC := Lib.hid hC
      have Hb := Lib.hid hb
      clear hC hb
      have Hsp := Lib.hid hsp
      have Hk := Lib.hid hk
      have Hwa := Lib.hid hwa
      clear hsp hk hwa
      cases ys with
      | nil =>
        rw [nxt_nil]
        have hf := Hwa.out.fin
        have Hf := Lib.hid hf
        clear hf
        go_wp2
        go_ret3
        exact ⟨by rw [whereV_yes Hv.out hx, Hf.out]; rfl, Hb.out⟩
      | cons z ys' =>
        obtain ⟨v, hv⟩ := nxt_pointer ys'
        have hseg := HC.out.seg
        rw [Hsp.out] at hseg
        have hm := hseg.mid
        have hm0 := hm.c0
        have hm2 := hm.c2
        have hm3 := hm.c3
        rw [hv] at hm3
        have he := split_secs Hsp.out Hn.out
        have hb := miles_part (by rw [← he]; exact small_mono (cab_small Hv.out) (by omega)) (by rw [← he]; omega)
        obtain ⟨b1, b2, b3, b4⟩ := hb
        have hok : secOk z.2 = true := (cabB_true.1 Hv.out).2 z.2 (by rw [he]; simp)
        have ho := secOk_true.1 hok
        obtain ⟨⟨m1, m2⟩, _, ⟨o1, o2⟩⟩ := ho
        have m1' : 0 ≤ z.2.m := by omega
        have hd := div_bd hy0 o1
        obtain ⟨d1, d2, _⟩ := hd
        have d3 := Int.mul_nonneg d1 (show 0 ≤ z.2.o by omega)
        have hdle : y / z.2.o ≤ y := Int.ediv_le_self _ hy0
        have Hv2 := Lib.hid hv
        have Hwa2 := Lib.hid (show WhereAt ss x (secs xs) (z.2 :: secs ys') y from Hwa.out)
        clear hv hm hseg he hok Hwa
        rw [nxt_cons]
        have qn : (z.2.o == 0) = false := by rw [beq_eq_false_iff_ne]; omega
        have qm : (z.2.o = 0) = False := by simp; omega
        have r3 : y.tdiv z.2.o = y / z.2.o := Int.tdiv_eq_ediv_of_nonneg hy0
        have r6 : IntKind.i64.wrap (y / z.2.o) = y / z.2.o := IntWalk.i64_in _ (by omega)
        by_cases hc : y / z.2.o < z.2.m
        · have Hst := Lib.hid (Hwa2.out.stop hc)
          have q1 : IntKind.i64.wrap (y / z.2.o * z.2.o) = y / z.2.o * z.2.o := IntWalk.i64_in _ (by omega)
          go_wp2
          go_still_tail 12, (by kernel_rfl)
          go_wp2
          go_ret3
          exact ⟨by rw [whereV_yes Hv.out hx, Hst.out]; rfl, below_drewN Hb.out _⟩
        · have Hst := Lib.hid (Hwa2.out.on hc)
          have hle := mul_le_of_div (x := y) o1 (show z.2.m ≤ y / z.2.o by omega)
          have hpr := Int.mul_nonneg m1' (show 0 ≤ z.2.o by omega)
          have q1 : IntKind.i64.wrap (z.2.m * z.2.o) = z.2.m * z.2.o := IntWalk.i64_in _ (by omega)
          have g1 : decide (z.2.m < z.2.m) = false := by simp
          go_wp2
          go_still_tail 12, (by kernel_rfl)
          go_wp2
          go_roundg ys'.length
          case measure => have := Hk.out; simp at this; omega
          case rel => exact ⟨⟨HC.out.drewN _, below_drewN Hb.out _⟩, xs ++ [z], ys', y - z.2.m * z.2.o, by rw [Hsp.out]; simp, rfl, Hv2.out.symm, by rw [secs_append, show secs [z] = [z.2] from rfl, milesL_snoc], rfl, by omega, by omega, by rw [secs_append]; exact Hst.out⟩

set_option maxHeartbeats 2000000 in
theorem specCableWhere_b (A : Option Addr) (c : Nat) (ss : List Sec) (x : Int) (w : World) (ha : ArgC w A c ss) (hx1 : x ≤ 9223372036854775807) :
    Calls Try.prog 17 #[.slice A ss.length c, .int .i64 x] w (RetB (whereV ss x) w) := by
  have HA := Lib.hid ha
  clear ha
  cases hv : cabB ss
  · have Hv := Lib.hid hv
    clear hv
    go_enter Try.func17, Try.ntmps17
    go_wp2_with fail
    refine (specCableValid_c A c ss _ HA.out).mono ?_
    rintro e w1 ⟨rfl, hb⟩
    rw [Hv.out]
    have Hb := Lib.hid hb
    clear hb
    go_wp2
    go_ret3
    exact ⟨by rw [whereV_no Hv.out]; rfl, Hb.out⟩
  by_cases hx0 : x < 0
  · have Hv := Lib.hid hv
    clear hv
    have g0 : decide (x < 0) = true := by simp; omega
    go_enter Try.func17, Try.ntmps17
    go_wp2_with fail
    refine (specCableValid_c A c ss _ HA.out).mono ?_
    rintro e w1 ⟨rfl, hb⟩
    rw [Hv.out]
    have Hb := Lib.hid hb
    clear hb
    go_wp2
    go_ret3
    exact ⟨by rw [whereV_neg hx0]; rfl, Hb.out⟩
  · have Hv := Lib.hid hv
    have hm := (cab_miles hv).2
    have hx : 0 ≤ x := by omega
    obtain ⟨f1, f2, f3, f4, f5⟩ := whereL_facts (cabB_true.1 hv).2 x hx
    have Hgo := Lib.hid (fun i hi hlt => where_go (x := x) (i := i) (cabB_true.1 hv).2 hx hi hlt)
    have hwv := whereV_yes hv hx
    obtain ⟨W, hW⟩ : ∃ W, (whereL ss x).1 = W := ⟨_, rfl⟩
    obtain ⟨R, hR⟩ : ∃ R, (whereL ss x).2 = R := ⟨_, rfl⟩
    rw [hW] at f1 f2 f4 f5 Hgo hwv
    rw [hR] at f3 f4 hwv
    have hoW : ohmsI ss W = x - R := by
      rw [ohmsI_in hv (inB_true.2 ⟨f1, f2⟩)]
      omega
    have hRx : R ≤ x := by
      have := (ohmsTo_bd (cab_small hv) W f1).1
      omega
    have HoW := Lib.hid hoW
    have Hwv := Lib.hid hwv
    have F5 := Lib.hid f5
    have F4 := Lib.hid f4
    have hmi := milesI_yes hv
    have Hmi := Lib.hid hmi
    clear hv hoW hwv f4 f5 hW hR hmi
    have g0 : decide (x < 0) = false := by simp; omega
    go_enter Try.func17, Try.ntmps17
    go_wp2_with fail
    refine (specCableValid_c A c ss _ HA.out).mono ?_
    rintro e w1 ⟨rfl, hb⟩
    rw [Hv.out]
    have Hb := Lib.hid hb
    clear hb
    go_wp2
    go_loopw [7] (fun q wr => ∃ i : Int, 0 ≤ i ∧ i ≤ W ∧ q = .int .i64 i ∧ Below w.heap.size w wr) (fun q _ => (W - intOf q).toNat)
    case atStart => exact ⟨0, by omega, by omega, rfl, Hb.out⟩
    case round =>
      clear Hb
      obtain ⟨i, hi0, hiW, rfl, hb⟩ := hrel
      have Hb := Lib.hid hb
      clear hb
      by_cases hlt : i < W
      · obtain ⟨k1, k2⟩ := Hgo.out i hi0 hlt
        have ho : ohmsI ss (i + 1) = ohmsTo ss (i + 1) := ohmsI_in Hv.out (inB_true.2 (by omega))
        have Ho := Lib.hid ho
        clear ho
        go_wp2_with fail
        refine (specCableMiles_b A c ss _ (HA.out.go Hb.out)).mono ?_
        rintro e w2 ⟨rfl, hb2⟩
        rw [Hmi.out]
        have Hb2 := Lib.hid (below_step Hb.out hb2)
        clear hb2
        go_wp2_with fail
        refine (specCableOhms_b A c ss (i + 1) _ (HA.out.go Hb2.out)).mono ?_
        rintro e w3 ⟨rfl, hb3⟩
        rw [Ho.out]
        have Hb3 := Lib.hid (below_step Hb2.out hb3)
        clear hb3
        have g1 : decide (ohmsTo ss (i + 1) ≤ x) = true := by simp; omega
        go_wp2
        go_roundw
        case rel => exact ⟨i + 1, by omega, by omega, rfl, Hb3.out⟩
        case measure => simp [intOf]; omega
      · obtain rfl : i = W := by omega
        go_wp2_with fail
        refine (specCableMiles_b A c ss _ (HA.out.go Hb.out)).mono ?_
        rintro e w2 ⟨rfl, hb2⟩
        rw [Hmi.out]
        have Hb2 := Lib.hid (below_step Hb.out hb2)
        clear hb2
        by_cases hml : i < milesL ss
        · have ho : ohmsI ss (i + 1) = ohmsTo ss (i + 1) := ohmsI_in Hv.out (inB_true.2 (by omega))
          have Ho := Lib.hid ho
          clear ho
          have k3 := F5.out hml
          go_wp2_with fail
          refine (specCableOhms_b A c ss (i + 1) _ (HA.out.go Hb2.out)).mono ?_
          rintro e w3 ⟨rfl, hb3⟩
          rw [Ho.out]
          have Hb3 := Lib.hid (below_step Hb2.out hb3)
          clear hb3
          have g1 : decide (ohmsTo ss (i + 1) ≤ x) = false := by simp; omega
          go_wp2_with fail
          refine (specCableOhms_b A c ss i _ (HA.out.go Hb3.out)).mono ?_
          rintro e w4 ⟨rfl, hb4⟩
          rw [HoW.out]
          have Hb4 := Lib.hid (below_step Hb3.out hb4)
          clear hb4
          go_wp2
          go_ret3
          exact ⟨by rw [Hwv.out]; simp; omega, Hb4.out⟩
        · go_wp2_with fail
          refine (specCableOhms_b A c ss i _ (HA.out.go Hb2.out)).mono ?_
          rintro e w4 ⟨rfl, hb4⟩
          rw [HoW.out]
          have Hb4 := Lib.hid (below_step Hb2.out hb4)
          clear hb4
          go_wp2
          go_ret3
          exact ⟨by rw [Hwv.out]; simp; omega, Hb4.out⟩

/-! ### its three results -/
def whereOk (ss : List Sec) (x : Int) : Bool := cabB ss && decide (0 ≤ x)
def whereM (ss : List Sec) (x : Int) : Int := if whereOk ss x then (whereL ss x).1 else 0
def whereR (ss : List Sec) (x : Int) : Int := if whereOk ss x then (whereL ss x).2 else 0
theorem whereV_parts (ss : List Sec) (x : Int) : whereV ss x = .tuple #[.int .i64 (whereM ss x), .int .i64 (whereR ss x), .bool (whereOk ss x)] := by
  unfold whereV whereM whereR
  cases h : whereOk ss x
  · unfold whereOk at h
    rw [h]
    rfl
  · unfold whereOk at h
    rw [h]
    rfl
theorem implCableWhere_t (A : Option Addr) (c : Nat) (ss : List Sec) (x : Int) (w : World) (ha : ArgC w A c ss) (hx1 : x ≤ 9223372036854775807) :
    Calls Try.prog 16 #[.slice A ss.length c, .int .i64 x] w (RetB (.tuple #[.int .i64 (whereM ss x), .int .i64 (whereR ss x), .bool (whereOk ss x)]) w) := by
  rw [← whereV_parts]
  exact implCableWhere_b A c ss x w ha hx1
theorem specCableWhere_t (A : Option Addr) (c : Nat) (ss : List Sec) (x : Int) (w : World) (ha : ArgC w A c ss) (hx1 : x ≤ 9223372036854775807) :
    Calls Try.prog 17 #[.slice A ss.length c, .int .i64 x] w (RetB (.tuple #[.int .i64 (whereM ss x), .int .i64 (whereR ss x), .bool (whereOk ss x)]) w) := by
  rw [← whereV_parts]
  exact specCableWhere_b A c ss x w ha hx1

end Go.Proofs.Ytgidemhencbgdaa
