/-
  FaultOne, FaultFind, FaultBoth of the program.
-/
import Derived.Test.YtodboccadccpfaaFinds
import Derived.Deep.RegionWith
namespace Go.Proofs.Ytodboccadccpfaa
open Go.RowKit

def yesP : Nat → Bool := fun _ => true
set_option maxRecDepth 100000 in
theorem one1_c (f : Flt) (x y : Int) (w : World) :
    Calls Try.prog 63 #[.agg #[.int .i64 f.m, .int .i64 f.o], .int .i64 x, .int .i64 y] w (RetB (.bool true) w) := by
  go_enter Try.func63, Try.ntmps63
  go_wp2
  go_ret
  exact ⟨rfl, (Below.refl _ _).alloc (Nat.le_refl _) _⟩

set_option maxRecDepth 100000 in
theorem implFaultOne_b (A : Option Addr) (c : Nat) (ss : List Sec) (a : Int) (w : World) (ha : ArgC w A c ss) (ha2 : a ≤ 9223372036854775807) :
    Calls Try.prog 19 #[.slice A ss.length c, .int .i64 a] w (RetF 44 (fun v => .tuple #[v, .bool (cab0 ss a)]) (findsL ss a yesP) w) := by
  have HA := Lib.hid ha
  clear ha
  go_enter Try.func19, Try.ntmps19
  go_wp2_with fail
  refine (findFaults_b 63 #[] yesP A c ss a _ (fun args w => enters_of Try.func63 (by kernel_rfl) rfl args w) HA.out ha2 ?_).mono ?_
  · intro _ k W _ _ _
    exact one1_c ⟨k, a - rN ss k⟩ _ _ W
  rintro e w1 ⟨B, d, rfl, ra, ro, rb⟩
  have H := Lib.hid (show RetF 44 (fun v => .tuple #[v, .bool (cab0 ss a)]) (findsL ss a yesP) w (.returned (.tuple #[.slice B (findsL ss a yesP).length d, .bool (cab0 ss a)])) w1 from ⟨B, d, rfl, ra, ro, rb⟩)
  clear ra ro rb
  dsimp only
  go_wp2
  go_ret2
  exact H.out

/-! ### FaultFind -/
def balP (ss : List Sec) (a b : Int) : Nat → Bool := fun k => ohmsL ss - rN ss k + (a - rN ss k) == b
def findO (ss : List Sec) (a b : Int) : Option Flt := (findsL ss a (balP ss a b)).head?
def findV (ss : List Sec) (a b : Int) : Value := .tuple #[((findO ss a b).getD ⟨0, 0⟩).v, .bool (findO ss a b).isSome]
theorem findV_nil {ss : List Sec} {a b : Int} (h : findsL ss a (balP ss a b) = []) : findV ss a b = .tuple #[.agg #[.int .i64 0, .int .i64 0], .bool false] := by unfold findV findO; rw [h]; rfl
theorem findV_cons {ss : List Sec} {a b : Int} {f : Flt} {r : List Flt} (h : findsL ss a (balP ss a b) = f :: r) : findV ss a b = .tuple #[.agg #[.int .i64 f.m, .int .i64 f.o], .bool true] := by unfold findV findO; rw [h]; rfl

set_option maxRecDepth 100000 in
theorem find1_c (f : Flt) (x y b : Int) (n : Nat) (w : World) (hb : Boxed w n 3 (.int .i64 b)) (h : -9000 ≤ y + f.o ∧ y + f.o ≤ 9000) :
    Calls Try.prog 69 #[.agg #[.int .i64 f.m, .int .i64 f.o], .int .i64 x, .int .i64 y, .pointer (some ⟨n, 0, none⟩)] w (RetB (.bool (y + f.o == b)) w) := by
  have q1 : IntKind.i64.wrap (y + f.o) = y + f.o := IntWalk.i64_in _ (by omega)
  have cb := (hb.alloc (.cells #[.int .i64 f.m, .int .i64 f.o] 44)).cell
  clear hb h
  go_enter Try.func69, Try.ntmps69
  go_wp2
  go_ret
  exact ⟨rfl, (Below.refl _ _).alloc (Nat.le_refl _) _⟩

set_option maxRecDepth 100000 in
set_option maxHeartbeats 1000000 in
theorem implFaultFind_b (A : Option Addr) (c : Nat) (ss : List Sec) (a b : Int) (w : World) (ha : ArgC w A c ss) (ha2 : a ≤ 9223372036854775807) :
    Calls Try.prog 23 #[.slice A ss.length c, .int .i64 a, .int .i64 b] w (RetB (findV ss a b) w) := by
  obtain ⟨w0, hw0⟩ : ∃ w0, (w.alloc (.cells #[.int .i64 b] 3)).alloc (.cells #[.int .i64 0, .int .i64 0] 44) = w0 := ⟨_, rfl⟩
  have hm : Boxed w0 w.heap.size 3 (.int .i64 b) := by rw [← hw0]; exact (Boxed.new w _ _).alloc _
  have hR : TwoAt 44 w0 (w.heap.size + 1) 0 0 := by rw [← hw0]; exact TwoAt.new1 _ w _ 0 0
  have hB : Below w.heap.size w w0 := by rw [← hw0]; exact ((Below.refl _ _).alloc (Nat.le_refl _) _).alloc (by simp) _
  have hs : w0.heap.size = w.heap.size + 2 := by rw [← hw0]; simp
  have HA := Lib.hid (ha.go hB)
  have Hm := Lib.hid hm
  have HR := Lib.hid hR
  have HB := Lib.hid hB
  have Hw0 := Lib.hid hw0
  clear ha hm hR hB hw0
  obtain ⟨zs, hz⟩ : ∃ zs, findsL ss a (balP ss a b) = zs := ⟨_, rfl⟩
  have hl : zs.length ≤ 2097152 := by
    rw [← hz]
    unfold findsL
    split
    · rename_i h9
      have h8 := fltL_length (rN ss) a (balP ss a b) (mN ss + 1)
      have h7 := (mN_bd (cab0_true h9).1 0).2.1
      omega
    · simp
  have Hz := Lib.hid hz
  clear hz
  go_enter Try.func23, Try.ntmps23
  go_wp2_with fail
  rw [Hw0.out]
  refine (findFaults_b 69 #[.pointer (some ⟨w.heap.size, 0, none⟩)] (balP ss a b) A c ss a _ (fun args w => enters_of Try.func69 (by kernel_rfl) rfl args w) HA.out ha2 ?_).mono ?_
  · intro h0 k W hk hin hb
    have hc := (cab0_true h0).1
    have hr := rN_bd hc k
    have ho := cab_ohms hc
    have hi := inB_true.1 hin
    exact find1_c ⟨k, a - rN ss k⟩ (rN ss k) (ohmsL ss - rN ss k) b w.heap.size W (boxed_below Hm.out hb (by omega)) (by dsimp only; omega)
  rintro e w1 ⟨B, d, rfl, ra, ro, rb⟩
  rw [Hz.out] at ra ⊢
  dsimp only
  have hR1 := HR.out.below rb (by omega)
  have Hb1 := Lib.hid (below_step HB.out rb)
  have Ra := Lib.hid ra
  clear ro rb
  cases zs with
  | nil =>
    have Hv := Lib.hid (findV_nil Hz.out)
    obtain ⟨⟨k0, k1, f0, f1⟩, e0, e1⟩ := hR1.all 0 0
    have Hs2 := Lib.hid (below_set Hb1.out (Nat.le_succ _) (.int .i64 0) (.int .i64 0))
    clear hR1 ra
    go_wp2
    exact bodyPost_ret (v := .tuple #[.agg #[.int .i64 0, .int .i64 0], .bool false]) (by simp [results, Try.results23, go_sem, e0, e1]) rfl ⟨by rw [Hv.out], Hs2.out⟩
  | cons f r =>
    have Hv := Lib.hid (findV_cons Hz.out)
    obtain ⟨⟨k0, k1, f0, f1⟩, e0, e1⟩ := hR1.all f.m f.o
    have Hs2 := Lib.hid (below_set Hb1.out (Nat.le_succ _) (.int .i64 f.m) (.int .i64 f.o))
    obtain ⟨bb, off, rfl, _, _, hc0, hc1⟩ := ra.rd.at_ (k := 0) (by simp)
    rw [Nat.zero_mul, Nat.add_zero] at hc0 hc1
    have e9 : fltAt (f :: r) 0 = f := rfl
    rw [e9] at hc0 hc1
    have g0 : (0 : Int) < (((f :: r).length : Nat) : Int) := by rw [List.length_cons]; omega
    have g1 : ((((f :: r).length : Nat) : Int) == 0) = false := by simp; omega
    generalize hlen : (f :: r).length = L at *
    clear hR1 ra hlen
    go_wp2
    exact bodyPost_ret (v := .tuple #[.agg #[.int .i64 f.m, .int .i64 f.o], .bool true]) (by simp [results, Try.results23, go_sem, e0, e1]) rfl ⟨by rw [Hv.out], Hs2.out⟩

end Go.Proofs.Ytodboccadccpfaa
