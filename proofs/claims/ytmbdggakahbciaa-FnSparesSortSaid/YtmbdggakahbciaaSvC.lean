/-
  What servings lean on: Index and Contains at ints, the model's l4Has and l4Serves, servesNext, sumMiles, both lists.
-/
import Derived.Test.YtmbdggakahbciaaSpV
import Derived.Test.YtmbdggakahbciaaSrvM
namespace Go.Proofs.Ytmbdggakahbciaa
open Go.RowKit

theorem notin_zero (zs : List Int) (x : Int) : x ∉ zs.take 0 := by simp
theorem notin_succ {zs : List Int} {x : Int} {k : Nat} (h : x ∉ zs.take k) (hk : k < zs.length) (hx : ¬ x = zs[k]?.getD 0) : x ∉ zs.take (k + 1) := by
  rw [List.take_succ_eq_append_getElem hk]
  intro h2
  rcases List.mem_append.1 h2 with h3 | h3
  · exact h h3
  · simp at h3; apply hx; simp [hk, h3]
theorem in_at {zs : List Int} {x : Int} {k : Nat} (hk : k < zs.length) (hx : x = zs[k]?.getD 0) : x ∈ zs := by
  rw [hx]; simp [hk]

set_option maxHeartbeats 1000000 in
theorem index_c (A : Option Addr) (c : Nat) (zs : List Int) (x : Int) (w : World) (ha : Arg w A c zs) :
    Calls Try.prog 86 #[.slice A zs.length c, .int .i64 x] w fun e w' => (∃ i : Int, e = .returned (.int .i64 i) ∧ (0 ≤ i ↔ x ∈ zs) ∧ -1 ≤ i ∧ i ≤ 2097152) ∧ Below w.heap.size w w' := by
  have hl := ha.len
  have HA := Lib.hid ha
  clear ha
  go_enter Try.func86, Try.ntmps86
  go_wp2
  go_loopw [8] (fun i wr => ∃ k : Nat, k ≤ zs.length ∧ i = .int .i64 k ∧ x ∉ zs.take k ∧ Below w.heap.size w wr) (fun i _ => zs.length - (intOf i).toNat)
  case atStart => exact ⟨0, Nat.zero_le _, rfl, notin_zero zs x, Below.refl _ _⟩
  case round =>
    obtain ⟨k, hk, rfl, ho, hb⟩ := hrel
    have Ho := Lib.hid ho
    have Hb := Lib.hid hb
    clear ho hb
    by_cases hlt : k < zs.length
    · obtain ⟨b, off, rfl, _, hbw, hc0⟩ := (HA.out.go Hb.out).rd.at_ hlt
      have Hin := Lib.hid (in_at (zs := zs) (x := x) hlt)
      have Hno := Lib.hid (notin_succ Ho.out hlt)
      obtain ⟨y, hy⟩ : ∃ y, zs[k]?.getD 0 = y := ⟨_, rfl⟩
      rw [hy] at hc0 Hin Hno
      have g1 : (k : Int) < (zs.length : Int) := by omega
      clear hy
      by_cases hxy : x = y
      · go_wp2
        go_ret
        exact ⟨⟨k, rfl, ⟨fun _ => Hin.out hxy, fun _ => by omega⟩, by omega, by omega⟩, Hb.out⟩
      · go_wp2
        go_roundw
        case rel => exact ⟨k + 1, by omega, by go_num, Hno.out hxy, Hb.out⟩
        case measure => simp [intOf]; omega
    · obtain rfl : k = zs.length := by omega
      have h1 := Ho.out
      rw [List.take_length] at h1
      have H1 := Lib.hid h1
      clear h1
      go_wp2
      go_ret
      exact ⟨⟨-1, rfl, ⟨fun h => by omega, fun h => absurd h H1.out⟩, by omega, by omega⟩, Hb.out⟩

theorem contains_c (A : Option Addr) (c : Nat) (zs : List Int) (x : Int) (w : World) (ha : Arg w A c zs) :
    Calls Try.prog 69 #[.slice A zs.length c, .int .i64 x] w (RetB (.bool (decide (x ∈ zs))) w) := by
  have HA := Lib.hid ha
  clear ha
  go_enter Try.func69, Try.ntmps69
  go_wp2_with fail
  refine (index_c A c zs x _ HA.out).mono ?_
  rintro e w1 ⟨⟨i, rfl, hi, h1, h2⟩, hb⟩
  have Hi := Lib.hid hi
  have Hb := Lib.hid hb
  clear hi hb
  go_wp2
  go_ret
  exact ⟨by rw [show decide (x ∈ zs) = decide (0 ≤ i) from decide_eq_decide.2 Hi.out.symm]; rfl, Hb.out⟩

set_option maxHeartbeats 1000000 in
theorem l4Has_c (A : Option Addr) (c : Nat) (zs : List Int) (x : Int) (w : World) (ha : Arg w A c zs) :
    Calls Try.prog 55 #[.slice A zs.length c, .int .i64 x] w fun e w' => e = .returned (.bool (decide (x ∈ zs))) ∧ w = w' := by
  have hl := ha.len
  have HA := Lib.hid ha
  clear ha
  go_enter Try.func55, Try.ntmps55
  go_wp2
  go_loopw [5] (fun i wr => ∃ k : Nat, k ≤ zs.length ∧ i = .int .i64 k ∧ x ∉ zs.take k ∧ w = wr) (fun i _ => zs.length - (intOf i).toNat)
  case atStart => exact ⟨0, Nat.zero_le _, rfl, notin_zero zs x, rfl⟩
  case round =>
    obtain ⟨k, hk, rfl, ho, rfl⟩ := hrel
    have Ho := Lib.hid ho
    clear ho
    by_cases hlt : k < zs.length
    · obtain ⟨b, off, rfl, _, hbw, hc0⟩ := HA.out.rd.at_ hlt
      have Hin := Lib.hid (fun h => in_at (zs := zs) (x := x) hlt (Eq.symm h))
      have Hno := Lib.hid (fun h : ¬ zs[k]?.getD 0 = x => notin_succ Ho.out hlt (fun q => h q.symm))
      obtain ⟨y, hy⟩ : ∃ y, zs[k]?.getD 0 = y := ⟨_, rfl⟩
      rw [hy] at hc0 Hin Hno
      have g1 : (k : Int) < (zs.length : Int) := by omega
      clear hy
      by_cases hxy : y = x
      · go_wp2
        go_ret
        exact ⟨by rw [decide_eq_true (Hin.out hxy)]; rfl, rfl⟩
      · go_wp2
        go_roundw
        case rel => exact ⟨k + 1, by omega, by go_num, Hno.out hxy, trivial⟩
        case measure => simp [intOf]; omega
    · obtain rfl : k = zs.length := by omega
      have h1 := Ho.out
      rw [List.take_length] at h1
      have H1 := Lib.hid h1
      clear h1
      go_wp2
      go_ret
      exact ⟨by rw [decide_eq_false H1.out]; rfl, rfl⟩

theorem srvB_eq (s d : Spr) (b : Bool) (h : (s.k = d.k ∧ d.m ≤ s.m) ↔ b = true) : srvB s d = b := by
  cases b
  · cases e : srvB s d
    · rfl
    · have := h.1 (srvB_true.1 e); cases this
  · exact srvB_true.2 (h.2 rfl)

set_option maxHeartbeats 1000000 in
theorem l4Serves_c (s d : Spr) (w : World) :
    Calls Try.prog 56 #[.agg #[.int .i64 s.m, .int .i64 s.k], .agg #[.int .i64 d.m, .int .i64 d.k]] w (RetB (.bool (srvB s d)) w) := by
  obtain ⟨sm, sk⟩ := s
  obtain ⟨dm, dk⟩ := d
  dsimp only
  by_cases h1 : sk = dk
  · subst h1
    by_cases h2 : sm ≥ dm
    · have Hs := Lib.hid (srvB_eq ⟨sm, sk⟩ ⟨dm, sk⟩ true ⟨fun _ => rfl, fun _ => ⟨rfl, h2⟩⟩)
      go_enter Try.func56, Try.ntmps56
      go_wp2
      go_ret
      exact ⟨by rw [Hs.out]; rfl, ((Below.refl _ w).alloc (Nat.le_refl _) _).alloc (by simp) _⟩
    · have Hs := Lib.hid (srvB_eq ⟨sm, sk⟩ ⟨dm, sk⟩ false ⟨fun h => absurd h.2 h2, fun h => by cases h⟩)
      go_enter Try.func56, Try.ntmps56
      go_wp2
      go_ret
      exact ⟨by rw [Hs.out]; rfl, ((Below.refl _ w).alloc (Nat.le_refl _) _).alloc (by simp) _⟩
  · have Hs := Lib.hid (srvB_eq ⟨sm, sk⟩ ⟨dm, dk⟩ false ⟨fun h => absurd h.1 h1, fun h => by cases h⟩)
    go_enter Try.func56, Try.ntmps56
    go_wp2
    go_ret
    exact ⟨by rw [Hs.out]; rfl, ((Below.refl _ w).alloc (Nat.le_refl _) _).alloc (by simp) _⟩

theorem bothB_not1 {L Nd : List Spr} (h : sprB 10 L = false) : bothB L Nd = false := by unfold bothB; rw [h]; rfl
theorem bothB_not2 {L Nd : List Spr} (h : sprB 5 Nd = false) : bothB L Nd = false := by unfold bothB; rw [h]; simp
theorem bothB_and {L Nd : List Spr} (h : sprB 10 L = true) : bothB L Nd = sprB 5 Nd := by unfold bothB; rw [h]; rfl
theorem sprB_ten {Nd : List Spr} (h : sprB 10 Nd = false) : sprB 5 Nd = false := by
  cases e : sprB 5 Nd
  · rfl
  · have h2 := sprB_true.1 e
    have : sprB 10 Nd = true := sprB_true.2 ⟨by omega, h2.2⟩
    rw [h] at this; cases this
theorem sprB_five {Nd : List Spr} (h : sprB 10 Nd = true) : sprB 5 Nd = decide (Nd.length ≤ 5) := by
  unfold sprB at *
  rw [Bool.and_eq_true] at h
  rw [h.2, Bool.and_true]

theorem sparesAndNeeds_c (A : Option Addr) (c : Nat) (L : List Spr) (A2 : Option Addr) (c2 : Nat) (Nd : List Spr) (w : World) (ha : ArgZ w A c L) (ha2 : ArgZ w A2 c2 Nd) :
    Calls Try.prog 52 #[.slice A L.length c, .slice A2 Nd.length c2] w (RetB (.bool (bothB L Nd)) w) := by
  have HA := Lib.hid ha
  have HA2 := Lib.hid ha2
  clear ha ha2
  go_enter Try.func52, Try.ntmps52
  go_wp2_with fail
  refine (implSparesValid_b A c L _ HA.out).mono ?_
  rintro e w1 ⟨rfl, hb⟩
  have Hb := Lib.hid hb
  clear hb
  cases h1 : sprB 10 L
  · have H1 := Lib.hid h1
    clear h1
    go_wp2
    go_ret
    exact ⟨by rw [bothB_not1 H1.out]; rfl, Hb.out⟩
  · have H1 := Lib.hid h1
    clear h1
    go_wp2_with fail
    refine (lengthsValid_c A2 c2 Nd 5 _ (HA2.out.go Hb.out)).mono ?_
    rintro e w2 ⟨rfl, hb2⟩
    have Hb2 := Lib.hid hb2
    clear hb2
    go_wp2
    go_ret
    exact ⟨by rw [bothB_and H1.out]; rfl, below_step Hb.out Hb2.out⟩

theorem l4Both_c (A : Option Addr) (c : Nat) (L : List Spr) (A2 : Option Addr) (c2 : Nat) (Nd : List Spr) (w : World) (ha : ArgZ w A c L) (ha2 : ArgZ w A2 c2 Nd) :
    Calls Try.prog 54 #[.slice A L.length c, .slice A2 Nd.length c2] w (RetB (.bool (bothB L Nd)) w) := by
  have hl := ha2.len
  have HA := Lib.hid ha
  have HA2 := Lib.hid ha2
  clear ha ha2
  go_enter Try.func54, Try.ntmps54
  go_wp2_with fail
  refine (specSparesValid_b A c L _ HA.out).mono ?_
  rintro e w1 ⟨rfl, hb⟩
  have Hb := Lib.hid hb
  clear hb
  cases h1 : sprB 10 L
  · have H1 := Lib.hid h1
    clear h1
    go_wp2
    go_ret
    exact ⟨by rw [bothB_not1 H1.out]; rfl, Hb.out⟩
  · have H1 := Lib.hid h1
    clear h1
    go_wp2_with fail
    refine (specSparesValid_b A2 c2 Nd _ (HA2.out.go Hb.out)).mono ?_
    rintro e w2 ⟨rfl, hb2⟩
    have Hb2 := Lib.hid hb2
    clear hb2
    cases h2 : sprB 10 Nd
    · have H2 := Lib.hid h2
      clear h2
      go_wp2
      go_ret
      exact ⟨by rw [bothB_and H1.out, sprB_ten H2.out]; rfl, below_step Hb.out Hb2.out⟩
    · have H2 := Lib.hid h2
      clear h2
      go_wp2
      go_ret
      exact ⟨by rw [bothB_and H1.out, sprB_five H2.out, show decide (Nd.length ≤ 5) = decide ((Nd.length : Int) ≤ 5) from decide_eq_decide.2 (by omega)]; rfl, below_step Hb.out Hb2.out⟩

set_option maxHeartbeats 1000000 in
theorem servesNext_c (A : Option Addr) (c : Nat) (L : List Spr) (A2 : Option Addr) (c2 : Nat) (Nd : List Spr) (A3 : Option Addr) (c3 : Nat) (r : List Int) (i : Nat) (w : World) (ha : ArgZ w A c L) (ha2 : ArgZ w A2 c2 Nd) (ha3 : Arg w A3 c3 r) (hi : i < L.length) (hr : r.length < Nd.length) :
    Calls Try.prog 53 #[.slice A L.length c, .slice A2 Nd.length c2, .slice A3 r.length c3, .int .i64 i] w (RetB (.bool (sf L Nd r i)) w) := by
  have hl := ha.len
  have hl2 := ha2.len
  have hl3 := ha3.len
  have g1 : (i : Int) < (L.length : Int) := by omega
  have g2 : (r.length : Int) < (Nd.length : Int) := by omega
  obtain ⟨b, off, rfl, _, hbw, hc0, hc1⟩ := ha.rd.at_ hi
  obtain ⟨b2, off2, rfl, _, hbw2, hd0, hd1⟩ := ha2.rd.at_ hr
  have hsf : ∀ s d, sprAt L i = s → sprAt Nd r.length = d → sf L Nd r i = (srvB s d && !(decide ((i : Int) ∈ r))) := by
    intro s d h1 h2
    unfold sf
    rw [Int.toNat_natCast, h1, h2]
  obtain ⟨s, hs⟩ : ∃ s, sprAt L i = s := ⟨_, rfl⟩
  obtain ⟨d, hd⟩ : ∃ d, sprAt Nd r.length = d := ⟨_, rfl⟩
  rw [hsf s d hs hd]
  rw [hs] at hc0 hc1
  rw [hd] at hd0 hd1
  clear hs hd hsf
  obtain ⟨sm, sk⟩ := s
  obtain ⟨dm, dk⟩ := d
  dsimp only at hc0 hc1 hd0 hd1
  have HA3 := Lib.hid ha3
  have Hd := Lib.hid (fun (o1 o2 : Obj) => (show Below w.heap.size w ((w.alloc o1).alloc o2).drew from below_drewN (((Below.refl _ w).alloc (Nat.le_refl _) o1).alloc (by simp) o2) 1))
  clear ha ha2 ha3
  by_cases h1 : sk = dk
  · subst h1
    by_cases h2 : sm ≥ dm
    · have Hs := Lib.hid (srvB_eq ⟨sm, sk⟩ ⟨dm, sk⟩ true ⟨fun _ => rfl, fun _ => ⟨rfl, h2⟩⟩)
      go_enter Try.func53, Try.ntmps53
      go_wp2
      go_region
      all_goals
        go_wp2_with fail
        refine (contains_c A3 c3 r i _ (HA3.out.go (Hd.out _ _))).mono ?_
        rintro e w1 ⟨rfl, hb1⟩
        have Hb1 := Lib.hid hb1
        clear hb1
        go_wp2
        go_ret
        exact ⟨by rw [Hs.out]; simp, below_step (Hd.out _ _) Hb1.out⟩
    · have Hs := Lib.hid (srvB_eq ⟨sm, sk⟩ ⟨dm, sk⟩ false ⟨fun h => absurd h.2 h2, fun h => by cases h⟩)
      go_enter Try.func53, Try.ntmps53
      go_wp2
      go_region
      all_goals
        go_wp2
        go_ret
        exact ⟨by rw [Hs.out]; rfl, Hd.out _ _⟩
  · have Hs := Lib.hid (srvB_eq ⟨sm, sk⟩ ⟨dm, dk⟩ false ⟨fun h => absurd h.1 h1, fun h => by cases h⟩)
    go_enter Try.func53, Try.ntmps53
    go_wp2
    go_region
    all_goals
      go_wp2
      go_ret
      exact ⟨by rw [Hs.out]; rfl, Hd.out _ _⟩

theorem sumZ_succ {L : List Spr} {x : List Int} {k : Nat} (h : k < x.length) : sumZ L (x.take (k + 1)) = sumZ L (x.take k) + (sprAt L (x[k]?.getD 0).toNat).m := by
  rw [List.take_succ_eq_append_getElem h, sumZ_snoc]; simp [h]

set_option maxHeartbeats 1000000 in
theorem sumMiles_c (A : Option Addr) (c : Nat) (L : List Spr) (A2 : Option Addr) (c2 : Nat) (x : List Int) (w : World) (ha : ArgZ w A c L) (ha2 : Arg w A2 c2 x) (hL : sprB 10 L = true) (hx : ∀ i ∈ x, 0 ≤ i ∧ i < (L.length : Int)) :
    Calls Try.prog 62 #[.slice A L.length c, .slice A2 x.length c2] w (RetB (.int .i64 (sumZ L x)) w) := by
  have hl2 := ha2.len
  have hl := (sprB_true.1 hL).1
  have HA := Lib.hid ha
  have HA2 := Lib.hid ha2
  have HL := Lib.hid hL
  have Hx := Lib.hid hx
  clear ha ha2 hL hx
  go_enter Try.func62, Try.ntmps62
  go_wp2
  go_loopw [5, 10] (fun q i wr => ∃ k : Nat, k ≤ x.length ∧ i = .int .i64 k ∧ q = .int .i64 (sumZ L (x.take k)) ∧ Below w.heap.size w wr) (fun _ i _ => x.length - (intOf i).toNat)
  case atStart => exact ⟨0, Nat.zero_le _, rfl, rfl, Below.refl _ _⟩
  case round =>
    obtain ⟨k, hk, rfl, rfl, hb⟩ := hrel
    have Hb := Lib.hid hb
    clear hb
    by_cases hlt : k < x.length
    · obtain ⟨b2, off2, rfl, _, _, hc2⟩ := (HA2.out.go Hb.out).rd.at_ hlt
      have hxi := Hx.out (x[k]?.getD 0) (by simp [hlt])
      have hbd := sumZ_bd HL.out (x.take k) (fun i hi => Hx.out i (List.mem_of_mem_take hi))
      have hlk : (x.take k).length = k := by simp; omega
      rw [hlk] at hbd
      obtain ⟨q, hq⟩ : ∃ q, sumZ L (x.take k) = q := ⟨_, rfl⟩
      have Hn := Lib.hid (sumZ_succ (L := L) hlt)
      rw [hq] at hbd Hn ⊢
      obtain ⟨i, hi⟩ : ∃ i, x[k]?.getD 0 = i := ⟨_, rfl⟩
      rw [hi] at hxi hc2 Hn
      obtain ⟨j, rfl⟩ := Int.eq_ofNat_of_zero_le hxi.1
      rw [Int.toNat_natCast] at Hn
      have hjl : j < L.length := by omega
      obtain ⟨b, off, rfl, _, _, hc0, hc1⟩ := (HA.out.go Hb.out).rd.at_ hjl
      have hm := (sprB_at HL.out hjl).1
      obtain ⟨s, hs⟩ : ∃ s, sprAt L j = s := ⟨_, rfl⟩
      rw [hs] at hc0 hc1 hm Hn
      obtain ⟨q1, q2⟩ := hbd
      have q3 : q ≤ 104857600 := by omega
      have g1 : (k : Int) < (x.length : Int) := by omega
      have g2 : (j : Int) < (L.length : Int) := by omega
      clear hi hs hq hlk hxi
      go_wp2
      go_roundw
      case rel => exact ⟨k + 1, by omega, by go_num, by rw [Hn.out], Hb.out⟩
      case measure => simp [intOf]; omega
    · obtain rfl : k = x.length := by omega
      rw [List.take_length]
      go_wp2
      go_ret
      exact ⟨rfl, Hb.out⟩

end Go.Proofs.Ytmbdggakahbciaa
