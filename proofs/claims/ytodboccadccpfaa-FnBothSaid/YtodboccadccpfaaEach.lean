/-
  eachMile of the program: it calls a function value at each mile, in order.
-/
import Derived.Test.YtodboccadccpfaaCAll
import Derived.Test.YtodboccadccpfaaMemF
import Derived.Shelf.Abstract
namespace Go.Proofs.Ytodboccadccpfaa
open Go.RowKit

/-- all miles, as a number of the naturals -/
def mN (ss : List Sec) : Nat := (milesL ss).toNat
def rN (ss : List Sec) (k : Nat) : Int := ohmsTo ss (k : Int)
theorem rN_zero {ss : List Sec} (h : small 50 ss) : rN ss 0 = 0 := ohmsTo_zero ss h
theorem ohmsTo_ge {ss : List Sec} (h : small 50 ss) : ∀ x, milesL ss ≤ x → ohmsTo ss x = ohmsL ss := by
  induction ss with
  | nil => intro x _; rfl
  | cons s r ih =>
    intro x hx
    have h2 := h.head
    have h3 := milesL_bd h.tail
    rw [milesL_cons] at hx
    rw [ohmsTo, ohmsL_cons, show min x s.m = s.m by omega, ih h.tail _ (by omega)]
theorem split_sec (ss : List Sec) {k : Nat} (h : k < ss.length) : ss = ss.take k ++ secAt ss k :: ss.drop (k + 1) := by rw [secAt_lt h]; exact split_at ss h
/-- within the section k -/
theorem rN_in {ss : List Sec} (h : small 50 ss) {k : Nat} (hk : k < ss.length) {n : Nat} (hn : (n : Int) ≤ (secAt ss k).m) : rN ss (mN (ss.take k) + n) = ohmsL (ss.take k) + n * (secAt ss k).o := by
  have ht := small_take h k
  have hb := milesL_bd ht
  have e : ((mN (ss.take k) + n : Nat) : Int) = milesL (ss.take k) + n := by unfold mN; omega
  have hd : small 50 (secAt ss k :: ss.drop (k + 1)) := by
    have h9 := h
    rw [split_sec ss hk] at h9
    exact h9.right
  have e2 : ohmsTo ss (milesL (ss.take k) + n) = ohmsTo (ss.take k ++ secAt ss k :: ss.drop (k + 1)) (milesL (ss.take k) + n) := by rw [← split_sec ss hk]
  unfold rN
  rw [e, e2, ohmsTo_append _ _ ht _ (by omega), ohmsTo_ge ht _ (by omega)]
  have e3 : restTo (ss.take k) (milesL (ss.take k) + n) = n := by unfold restTo; omega
  rw [e3, ohmsTo, show min (n : Int) (secAt ss k).m = n by omega, show (n : Int) - n = 0 by omega, ohmsTo_zero _ hd.tail]
  omega
theorem rN_on {ss : List Sec} (h : small 50 ss) {k : Nat} (hk : k < ss.length) {n : Nat} (hn : (n : Int) < (secAt ss k).m) : rN ss (mN (ss.take k) + (n + 1)) = rN ss (mN (ss.take k) + n) + (secAt ss k).o := by
  rw [rN_in h hk (by omega), rN_in h hk (by omega), Int.natCast_add, Int.add_mul]
  omega
theorem mN_take {ss : List Sec} (h : small 50 ss) {k : Nat} (hk : k < ss.length) : mN (ss.take (k + 1)) = mN (ss.take k) + (secAt ss k).m.toNat := by
  have h1 := milesL_bd (small_take h k)
  have h2 := h _ (secAt_mem hk)
  unfold mN
  rw [take_succ_at hk, milesL_snoc]
  omega
theorem mN_bd {ss : List Sec} (h : cabB ss = true) (k : Nat) : mN (ss.take k) ≤ mN ss ∧ mN ss ≤ 400 ∧ (mN ss : Int) = milesL ss := by
  have h1 := cab_miles h
  have hs := cab_small h
  have h2 := milesL_bd (small_take hs k)
  have h3 : small 50 (ss.take k ++ ss.drop k) := by rw [List.take_append_drop]; exact hs
  have h4 := milesL_bd h3.right
  have h5 : milesL ss = milesL (ss.take k) + milesL (ss.drop k) := by rw [← milesL_append, List.take_append_drop]
  unfold mN
  omega
theorem rN_bd {ss : List Sec} (h : cabB ss = true) (k : Nat) : 0 ≤ rN ss k ∧ rN ss k ≤ 8000 := by
  have h1 := cab_len h
  have := ohmsTo_bd (cab_small h) (k : Int) (by omega)
  unfold rN
  omega

/-- a section's block -/
def SecBlk (W : World) (D : Nat) (s : Sec) : Prop := W.heap[D]? = some (.cells #[.int .i64 s.m, .int .i64 s.k, .int .i64 s.o] 129 (0, 0))
theorem SecBlk.c0 {W : World} {D : Nat} {s : Sec} (h : SecBlk W D s) : W.cell? ⟨D, 0, none⟩ = some (.int .i64 s.m) := cell_of_row _ _ 0 _ _ _ h
theorem SecBlk.c2 {W : World} {D : Nat} {s : Sec} (h : SecBlk W D s) : W.cell? ⟨D, 2, none⟩ = some (.int .i64 s.o) := cell_of_row _ _ 2 _ _ _ h
theorem SecBlk.new (W : World) (s : Sec) : SecBlk (W.alloc (.cells #[.int .i64 s.m, .int .i64 s.k, .int .i64 s.o] 129)) W.heap.size s := heap_alloc_new W _
/-- WHAT A CALL AT A MILE LEAVES ALONE: sections' blocks -/
def KSec (W W' : World) : Prop := ∀ D s, SecBlk W D s → SecBlk W' D s

set_option maxRecDepth 100000 in
set_option maxHeartbeats 1000000 in
theorem eachMile_c (I : Nat → World → Prop) (g : Nat) (caps : Array Value) (A : Option Addr) (c : Nat) (ss : List Sec) (w : World) (B : Nat) (hen : ∀ (args : Array Value) (w : World), (callFunc g args).run Try.prog w = .ok (.enter g args) w) (hc : cabB ss = true) (ha : HeldC 0 B w A c ss)
    (hI : ∀ k W, I k W → Below B w W) (hIa : ∀ k W o, I k W → I k (W.alloc o)) (h0 : I 0 w)
    (hv : ∀ k W, k ≤ mN ss → I k W → Calls Try.prog g (#[.int .i64 k, .int .i64 (rN ss k)] ++ caps) W fun e W' => (∃ v, e = .returned v) ∧ I (k + 1) W' ∧ KSec W W') :
    Calls Try.prog 105 #[.slice A ss.length c, .func (.func g) #[] caps] w fun e w' => (∃ v, e = .returned v) ∧ I (mN ss + 1) w' := by
  have hs := cab_small hc
  have hl := (cab_len hc).2
  have HA := Lib.hid ha
  have HI := Lib.hid hI
  have HIa := Lib.hid hIa
  have HV := Lib.hid hv
  have Hc := Lib.hid hc
  have Hs := Lib.hid hs
  have hv0 := hv 0 w (Nat.zero_le _) h0
  rw [rN_zero hs] at hv0
  have HV0 := Lib.hid hv0
  clear ha hI hIa hv h0 hc hs hv0
  go_enter Try.func105, Try.ntmps105
  go_wp2_with fail
  refine HV0.out.mono ?_
  rintro e w1 ⟨⟨v, rfl⟩, h1, _⟩
  have H1 := Lib.hid h1
  clear h1 HV0
  go_wp2
  go_loopw [4, 5, 14] (fun m u i wr => ∃ k : Nat, k ≤ ss.length ∧ i = .int .i64 k ∧ m = .int .i64 (mN (ss.take k)) ∧ u = .int .i64 (rN ss (mN (ss.take k))) ∧ I (mN (ss.take k) + 1) wr) (fun _ _ i _ => ss.length - (intOf i).toNat)
  case atStart => exact ⟨0, Nat.zero_le _, rfl, rfl, by rw [List.take_zero, show mN [] = 0 from rfl, rN_zero Hs.out], by rw [List.take_zero]; exact H1.out⟩
  case round =>
    obtain ⟨k, hk, rfl, rfl, rfl, hi⟩ := hrel
    obtain ⟨W0, hW0⟩ : ∃ W0, W0 = wr := ⟨_, rfl⟩
    subst hW0
    by_cases hlt : k < ss.length
    · have hb := HI.out _ _ hi
      have hlo := HA.out.2.1
      obtain ⟨b, off, rfl, _, hbB, hc0, hc1, hc2⟩ := (HA.out.1.below hb).at_ hlt
      have hm := secOk_true.1 ((cabB_true.1 Hc.out).2 _ (secAt_mem hlt))
      have hmk := mN_bd Hc.out (k + 1)
      have hmt := mN_take Hs.out hlt
      have Hon := Lib.hid (fun (n : Nat) (hn : (n : Int) < (secAt ss k).m) => rN_on Hs.out hlt hn)
      obtain ⟨s, hs⟩ : ∃ s, secAt ss k = s := ⟨_, rfl⟩
      obtain ⟨a, hma⟩ : ∃ a, mN (ss.take k) = a := ⟨_, rfl⟩
      rw [hs] at hc0 hc1 hc2 hm Hon hmt
      rw [hma] at hi Hon hmt ⊢
      have Hi := Lib.hid hi
      have Hmt := Lib.hid hmt
      have hms : a + s.m.toNat ≤ mN ss := by omega
      have hms2 := hmk.2.1
      have g1 : (k : Int) < (ss.length : Int) := by omega
      clear hi hs hma hb hmt hmk
      go_wp2
      go_loopw [4, 5, 20] (fun m u i wq => ∃ n : Nat, n ≤ s.m.toNat ∧ i = .int .i64 n ∧ m = .int .i64 ((a + n : Nat) : Int) ∧ u = .int .i64 (rN ss (a + n)) ∧ I (a + n + 1) wq ∧ SecBlk wq W0.heap.size s) (fun _ _ i _ => s.m.toNat - (intOf i).toNat)
      case atStart => exact ⟨0, Nat.zero_le _, rfl, rfl, rfl, HIa.out _ _ _ Hi.out, SecBlk.new W0 s⟩
      case round =>
        obtain ⟨n, hn, rfl, rfl, rfl, hi, hsb⟩ := hrel
        have d0 := hsb.c0
        have d2 := hsb.c2
        have Hi2 := Lib.hid hi
        have Hsb := Lib.hid hsb
        clear hi hsb
        by_cases hnm : n < s.m.toNat
        · have g2 : (n : Int) < s.m := by omega
          have hr := rN_bd Hc.out (a + n)
          have hr2 := rN_bd Hc.out (a + n + 1)
          have he : rN ss (a + n + 1) = rN ss (a + n) + s.o := Hon.out n g2
          obtain ⟨r, hrr⟩ : ∃ r, rN ss (a + n) = r := ⟨_, rfl⟩
          rw [hrr] at hr he ⊢
          have hv1 := HV.out (a + n + 1) wr (by omega) Hi2.out
          rw [he] at hv1
          have HV1 := Lib.hid hv1
          have Q1 := Lib.hid (show (a : Int) + (n : Int) + 1 = ((a + n + 1 : Nat) : Int) by omega)
          have q2 : ((a + n : Nat) : Int) ≤ 400 := by omega
          have He := Lib.hid he
          clear hv1 he
          go_wp2_with fail
          rw [Q1.out]
          refine HV1.out.mono ?_
          rintro e w3 ⟨⟨v, rfl⟩, hi3, hk3⟩
          have Hi3 := Lib.hid hi3
          have Hsb3 := Lib.hid (hk3 _ _ Hsb.out)
          clear hi3 hk3
          go_wp2
          go_roundw
          case rel => exact ⟨n + 1, by omega, by go_num, rfl, by rw [← He.out]; rfl, Hi3.out, Hsb3.out⟩
          case measure => simp [intOf]; omega
        · obtain rfl : n = s.m.toNat := by omega
          have g2 : ¬ ((s.m.toNat : Nat) : Int) < s.m := by omega
          go_wp2
          go_roundw
          case rel => exact ⟨k + 1, by omega, by go_num, by rw [Hmt.out], by rw [Hmt.out], by rw [Hmt.out]; exact Hi2.out⟩
          case measure => simp [intOf]; omega
    · obtain rfl : k = ss.length := by omega
      rw [List.take_length] at hi
      have Hi := Lib.hid hi
      clear hi
      go_wp2

      go_end0
      exact ⟨⟨_, rfl⟩, Hi.out⟩

end Go.Proofs.Ytodboccadccpfaa
