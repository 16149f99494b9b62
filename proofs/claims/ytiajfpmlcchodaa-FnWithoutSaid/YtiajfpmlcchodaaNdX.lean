/-
  The drawn nets: DrawNetWithout.
-/
import Derived.Test.YtiajfpmlcchodaaNdA
import Derived.Test.YtiajfpmlcchodaaL91A
namespace Go.Proofs.Ytiajfpmlcchodaa
open Go.RowKit

/-- a net and an index -/
def RetWo (w : World) (e : Ending) (w' : World) : Prop :=
  ∃ (m : Nat), ∃ B d zs, ∃ (kk : Int), e = .returned (.tuple #[.int .i64 (m : Int), .slice B (zs : List Lin).length d, .int .i64 kk]) ∧ 2 ≤ m ∧ m ≤ 5 ∧ zs.length ≤ 7 ∧ ArgL w' B d zs ∧ Below w.heap.size w w'
set_option maxHeartbeats 2000000 in
theorem DrawNetWithout_c (A : Option Addr) (n c : Nat) (w : World) (hn : n ≤ 9223372036854775807) (hnc : n ≤ c) (hb : Bytes w.heap.size w A n) :
    Calls Try.prog 14 #[.slice A n c] w (RetWo w) := by
  have Hb := Lib.hid hb
  clear hb
  go_enter Try.func14, Try.ntmps14
  go_wp2_with fail
  refine (l6Open_c A n c _ hn hnc Hb.out).mono ?_
  rintro e w0 ⟨n1, c1, rfl, hr0, hb0, hs0⟩
  have H0 := Lib.hid hr0
  have HB0 := Lib.hid hb0
  obtain ⟨R, hR⟩ : ∃ R, w.heap.size = R := ⟨_, rfl⟩
  rw [hR] at H0 hs0
  have hRR : w.heap.size ≤ R := by omega
  clear hr0 hb0
  go_wp2_with fail
  refine (l92Net_c R A n1 c1 0 _ H0.out hs0 (by omega)).mono ?_
  rintro e w1 ⟨m, B, d, zs, q, rfl, hm2, hm5, hzl, ho1, hr1, hq, hg1⟩
  have hs1 := hg1.size
  have HO := Lib.hid ho1
  have HR1 := Lib.hid hr1
  have HG1 := Lib.hid hg1
  clear ho1 hr1 hg1 hR
  dsimp only
  go_wp2_with fail
  refine (l91At_c R A n1 c1 q zs.length _ HR1.out (by omega) (by omega) (by omega)).mono ?_
  rintro e w2 ⟨x, q2, rfl, hr2, hq2, hg2⟩
  have hs2 := hg2.size
  have Ha := Lib.hid ((HO.out.kept hg2 (fun r e => by cases e; exact .inl hs0)).arg (by omega) hs2)
  have HB2 := Lib.hid (draw_belowA HB0.out hRR (grown_then HG1.out hg2))
  clear hr2 hg2
  go_wp2
  go_ret3
  exact ⟨m, B, d, zs, x, rfl, hm2, hm5, hzl, Ha.out, HB2.out⟩

end Go.Proofs.Ytiajfpmlcchodaa
