/-
  The program's sets of open days: their size, the days ahead of one.
-/
import Derived.Test.YtodboccadccpfaaDoorFcM
import Derived.Test.YtodboccadccpfaaDoorMem
import Derived.Test.YtodboccadccpfaaDoorProg
import Derived.Lib.Tables
import Derived.Lib.BitFns
import Derived.Laws.Bits
import Derived.Laws.MathBits
import Derived.BigQuiet
import Derived.Deep.QuietTactic
import Derived.IntWalk
namespace Go.Proofs.YtodboccadccpfaaDoor
open Go.RowKit

theorem popAux_nil : ∀ f, Lib.popAux f 0 = 0
  | 0 => rfl
  | f + 1 => by rw [Lib.popAux, show 0 / 2 = 0 from rfl, popAux_nil f]
theorem popAux_split : ∀ (f g x : Nat), Lib.popAux (f + g) x = Lib.popAux f (x % 2 ^ f) + Lib.popAux g (x / 2 ^ f)
  | 0, g, x => by simp [Lib.popAux]
  | f + 1, g, x => by
    rw [show f + 1 + g = (f + g) + 1 by omega, Lib.popAux, popAux_split f g (x / 2), Lib.popAux, Nat.pow_succ, Nat.mul_comm (2 ^ f) 2, Nat.mod_mul, Nat.div_div_eq_div_mul,
      show (x % 2 + 2 * (x / 2 % 2 ^ f)) % 2 = x % 2 by omega, show (x % 2 + 2 * (x / 2 % 2 ^ f)) / 2 = x / 2 % 2 ^ f by omega]
    omega
theorem popAux_le : ∀ f x, Lib.popAux f x ≤ f
  | 0, x => Nat.le_refl _
  | f + 1, x => by rw [Lib.popAux]; have := popAux_le f (x / 2); omega
theorem pop8_at (a : Nat) (h : a < 256) : Lib.pop8 (a : Int) = (Lib.popAux 8 a : Int) := by
  have := Lib.pop8_eq ⟨a, h⟩
  simp only at this
  rw [this]
  unfold Lib.onesCount
  rw [show (64 : Nat) = 8 + 56 from rfl, popAux_split, Nat.mod_eq_of_lt (by omega), Nat.div_eq_of_lt (by omega), popAux_nil]
  omega
theorem pop_four (x : Nat) : Lib.popAux 32 x = Lib.popAux 8 (x % 256) + Lib.popAux 8 (x / 256 % 256) + Lib.popAux 8 (x / 65536 % 256) + Lib.popAux 8 (x / 16777216) := by
  rw [show (32 : Nat) = 8 + 24 from rfl, popAux_split, show (24 : Nat) = 8 + 16 from rfl, popAux_split, show (16 : Nat) = 8 + 8 from rfl, popAux_split, Nat.div_div_eq_div_mul, Nat.div_div_eq_div_mul]
  simp only [Nat.reducePow, Nat.reduceMul]
  omega
theorem wrapU (n : Nat) (h : n < 4294967296) : IntKind.u32.wrap (n : Int) = (n : Int) := by
  have e : IntKind.u32.wrap (n : Int) = (n : Int) % 4294967296 := by simp [IntKind.wrap, IntKind.signed, IntKind.bits]
  rw [e]; omega
theorem bv32 (n : Nat) (h : n < 4294967296) : (BitVec.ofInt 32 (n : Int)).toNat = n := by
  rw [BitVec.ofInt_natCast, BitVec.toNat_ofNat, Nat.mod_eq_of_lt h]
theorem and32 (a b : Nat) (ha : a < 4294967296) (hb : b < 4294967296) : bits .and .u32 (a : Int) (b : Int) = ((a &&& b : Nat) : Int) := by
  show IntKind.u32.wrap ((BitVec.ofInt 32 (a : Int) &&& BitVec.ofInt 32 (b : Int)).toNat : Int) = _
  rw [BitVec.toNat_and, bv32 a ha, bv32 b hb]
  exact wrapU _ (Nat.lt_of_le_of_lt Nat.and_le_left ha)
theorem or32 (a b : Nat) (ha : a < 4294967296) (hb : b < 4294967296) : bits .or .u32 (a : Int) (b : Int) = ((a ||| b : Nat) : Int) := by
  show IntKind.u32.wrap ((BitVec.ofInt 32 (a : Int) ||| BitVec.ofInt 32 (b : Int)).toNat : Int) = _
  rw [BitVec.toNat_or, bv32 a ha, bv32 b hb]
  exact wrapU _ (Nat.or_lt_two_pow (n := 32) ha hb)
theorem mask8 (a : Nat) (ha : a < 4294967296) : bits .and .u32 (a : Int) 255 = ((a % 256 : Nat) : Int) := by
  rw [show (255 : Int) = ((255 : Nat) : Int) from rfl, and32 a 255 ha (by omega), show (255 : Nat) = 2 ^ 8 - 1 from rfl, Nat.and_two_pow_sub_one_eq_mod]

set_option maxRecDepth 100000 in
set_option maxHeartbeats 1000000 in
theorem ones_c (x : Nat) (hx : x < 4294967296) (w : World) :
    Calls Tryd.prog 55 #[.int .u32 x] w (RetQ (.int .i64 (Lib.popAux 32 x)) w) := by
  have Hp := Lib.hid (pop_four x)
  have m0 := mask8 x hx
  have m1 : bits .and .u32 ((x : Int) / 256) 255 = ((x / 256 % 256 : Nat) : Int) := by
    rw [show (x : Int) / 256 = ((x / 256 : Nat) : Int) by omega]; exact mask8 _ (by omega)
  have m2 : bits .and .u32 ((x : Int) / 65536) 255 = ((x / 65536 % 256 : Nat) : Int) := by
    rw [show (x : Int) / 65536 = ((x / 65536 : Nat) : Int) by omega]; exact mask8 _ (by omega)
  obtain ⟨d, hd⟩ : ∃ d, x % 256 = d := ⟨_, rfl⟩
  obtain ⟨c, hc⟩ : ∃ c, x / 256 % 256 = c := ⟨_, rfl⟩
  obtain ⟨b, hb⟩ : ∃ b, x / 65536 % 256 = b := ⟨_, rfl⟩
  obtain ⟨a, ha⟩ : ∃ a, x / 16777216 = a := ⟨_, rfl⟩
  have m3 : (x : Int) / 16777216 = (a : Int) := by omega
  have a1 : (a : Int) ≤ 255 := by omega
  have b1 : (b : Int) ≤ 255 := by omega
  have c1 : (c : Int) ≤ 255 := by omega
  have d1 : (d : Int) ≤ 255 := by omega
  rw [hd] at m0 Hp
  rw [hc] at m1 Hp
  rw [hb] at m2 Hp
  rw [ha] at Hp
  have pa := pop8_at a (by omega)
  have pb := pop8_at b (by omega)
  have pc := pop8_at c (by omega)
  have pd := pop8_at d (by omega)
  have la := popAux_le 8 a
  have lb := popAux_le 8 b
  have lc := popAux_le 8 c
  have ld := popAux_le 8 d
  obtain ⟨qa, ha2⟩ : ∃ q, Lib.popAux 8 a = q := ⟨_, rfl⟩
  obtain ⟨qb, hb2⟩ : ∃ q, Lib.popAux 8 b = q := ⟨_, rfl⟩
  obtain ⟨qc, hc2⟩ : ∃ q, Lib.popAux 8 c = q := ⟨_, rfl⟩
  obtain ⟨qd, hd2⟩ : ∃ q, Lib.popAux 8 d = q := ⟨_, rfl⟩
  rw [ha2] at pa la Hp
  rw [hb2] at pb lb Hp
  rw [hc2] at pc lc Hp
  rw [hd2] at pd ld Hp
  have w1 : IntKind.u8.wrap ((qa : Int) + qb) = (qa : Int) + qb := IntWalk.u8_in _ (by omega)
  have w2 : IntKind.u8.wrap ((qa : Int) + qb + qc) = (qa : Int) + qb + qc := IntWalk.u8_in _ (by omega)
  have w3 : IntKind.u8.wrap ((qa : Int) + qb + qc + qd) = (qa : Int) + qb + qc + qd := IntWalk.u8_in _ (by omega)
  have w4 : IntKind.i64.wrap ((qa : Int) + qb + qc + qd) = (qa : Int) + qb + qc + qd := IntWalk.i64_in _ (by omega)
  have He := Lib.hid (show (qa : Int) + qb + qc + qd = ((Lib.popAux 32 x : Nat) : Int) by rw [Hp.out]; omega)
  clear ha2 hb2 hc2 hd2 ha hb hc hd hx Hp
  go_enter Tryd.func55, Tryd.ntmps55
  go_wp2
  go_quiet (fail)
  go_wp2
  go_ret
  exact ⟨congrArg (fun z => Ending.returned (.int .i64 z)) He.out, nq, rfl⟩

end Go.Proofs.YtodboccadccpfaaDoor
