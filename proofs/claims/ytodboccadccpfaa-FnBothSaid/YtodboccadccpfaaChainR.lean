/-
  The methods of a chain that only read it: miles, ohms.
-/
import Derived.Test.YtodboccadccpfaaChainO
namespace Go.Proofs.Ytodboccadccpfaa
open Go.RowKit

/-- sums over a chain stay small -/
theorem miles_part {xs : List Sec} {s : Sec} {r : List Sec} (h : small 1000 (xs ++ s :: r)) (hl : (xs ++ s :: r).length ≤ 1000) : 0 ≤ milesL xs ∧ milesL xs ≤ 1000000 ∧ 0 ≤ s.m ∧ s.m ≤ 1000 := by
  have h1 := milesL_bd h.left
  have h2 := h.right.head
  simp only [List.length_append, List.length_cons] at hl
  omega
theorem ohms_part {xs : List Sec} {s : Sec} {r : List Sec} (h : small 1000 (xs ++ s :: r)) (hl : (xs ++ s :: r).length ≤ 1000) : 0 ≤ ohmsL xs ∧ ohmsL xs ≤ 20000000 ∧ 0 ≤ s.m * s.o ∧ s.m * s.o ≤ 20000 := by
  have h1 := ohmsL_bd h.left
  have h2 := h.right.head
  have h3 := prod_bd h2.1 h2.2.1 h2.2.2.1 h2.2.2.2
  simp only [List.length_append, List.length_cons] at hl
  omega
set_option maxRecDepth 100000 in
set_option maxHeartbeats 1000000 in
theorem miles_c (P : Nat → Prop) (C : Nat) (ns : List (Nat × Sec)) (ss : List Sec) (w : World) (h : Chain P w C ns) (hss : secs ns = ss) (hs : small 1000 ss) (hl : ss.length ≤ 1000) :
    Calls Try.prog 71 #[.pointer (some ⟨C, 0, none⟩)] w fun e w' => e = .returned (.int .i64 (milesL ss)) ∧ w = w' := by
  have hc0 := h.c0
  obtain ⟨u, hu⟩ := nxt_pointer ns
  rw [hu] at hc0
  have Hu := Lib.hid hu
  have H := Lib.hid h
  have Hss := Lib.hid hss
  have Hs := Lib.hid hs
  clear hu h hss hs
  go_enter Try.func71, Try.ntmps71
  go_wp2
  go_loopg [3, 4] ns.length (fun k q l wr => w = wr ∧ ∃ xs ys : List (Nat × Sec), ns = xs ++ ys ∧ ys.length = k ∧ l = nxt ys ∧ q = .int .i64 (milesL (secs xs)))
  case atStart => exact ⟨rfl, [], ns, rfl, rfl, Hu.out.symm, rfl⟩
  case round =>
    obtain ⟨rfl, xs, ys, hsp, hk, rfl, rfl⟩ := hrel
    have Hsp := Lib.hid hsp
    have Hk := Lib.hid hk
    clear hsp hk
    cases ys with
    | nil =>
      rw [nxt_nil]
      go_wp2
      go_ret
      have e1 : secs xs = ss := by rw [← Hss.out, Hsp.out, List.append_nil]
      exact ⟨by rw [e1]; rfl, rfl⟩
    | cons x ys' =>
      obtain ⟨v, hv⟩ := nxt_pointer ys'
      have hseg := H.out.seg
      rw [Hsp.out] at hseg
      have hm := hseg.mid
      have hm0 := hm.c0
      have hm3 := hm.c3
      rw [hv] at hm3
      have he := split_secs Hsp.out Hss.out
      have hb := miles_part (by rw [← he]; exact Hs.out) (by rw [← he]; exact hl)
      obtain ⟨b1, b2, b3, b4⟩ := hb
      have Hv := Lib.hid hv
      clear hv hm hseg he
      rw [nxt_cons]
      go_wp2
      go_roundg ys'.length
      case measure => have := Hk.out; simp at this; omega
      case rel => exact ⟨rfl, xs ++ [x], ys', by rw [Hsp.out]; simp, rfl, Hv.out.symm, by rw [secs_append, show secs [x] = [x.2] from rfl, milesL_snoc]⟩

set_option maxRecDepth 100000 in
set_option maxHeartbeats 1000000 in
theorem ohms_c (P : Nat → Prop) (C : Nat) (ns : List (Nat × Sec)) (ss : List Sec) (w : World) (h : Chain P w C ns) (hss : secs ns = ss) (hs : small 1000 ss) (hl : ss.length ≤ 1000) :
    Calls Try.prog 131 #[.pointer (some ⟨C, 0, none⟩)] w fun e w' => e = .returned (.int .i64 (ohmsL ss)) ∧ Below w.heap.size w w' := by
  have hc0 := h.c0
  obtain ⟨u, hu⟩ := nxt_pointer ns
  rw [hu] at hc0
  have Hu := Lib.hid hu
  have H := Lib.hid h
  have Hss := Lib.hid hss
  have Hs := Lib.hid hs
  clear hu h hss hs
  go_enter Try.func131, Try.ntmps131
  go_wp2
  go_loopg [3, 4] ns.length (fun k q l wr => (∃ m, wr = w.drewN m) ∧ ∃ xs ys : List (Nat × Sec), ns = xs ++ ys ∧ ys.length = k ∧ l = nxt ys ∧ q = .int .i64 (ohmsL (secs xs)))
  case atStart => exact ⟨⟨0, rfl⟩, [], ns, rfl, rfl, Hu.out.symm, rfl⟩
  case round =>
    obtain ⟨⟨m, rfl⟩, xs, ys, hsp, hk, rfl, rfl⟩ := hrel
    have Hsp := Lib.hid hsp
    have Hk := Lib.hid hk
    clear hsp hk
    cases ys with
    | nil =>
      rw [nxt_nil]
      go_wp2
      go_ret
      have e1 : secs xs = ss := by rw [← Hss.out, Hsp.out, List.append_nil]
      exact ⟨by rw [e1]; rfl, below_drewN (Below.refl _ _) m⟩
    | cons x ys' =>
      obtain ⟨v, hv⟩ := nxt_pointer ys'
      have hseg := H.out.seg
      rw [Hsp.out] at hseg
      have hm := hseg.mid
      have hm0 := hm.c0
      have hm2 := hm.c2
      have hm3 := hm.c3
      rw [hv] at hm3
      have he := split_secs Hsp.out Hss.out
      have hb := ohms_part (by rw [← he]; exact Hs.out) (by rw [← he]; exact hl)
      obtain ⟨b1, b2, b3, b4⟩ := hb
      have Hv := Lib.hid hv
      clear hv hm hseg he
      rw [nxt_cons]
      have q1 : IntKind.i64.wrap (x.2.m * x.2.o) = x.2.m * x.2.o := IntWalk.i64_in _ (by omega)
      have q2 : IntKind.i64.wrap (ohmsL (secs xs) + x.2.m * x.2.o) = ohmsL (secs xs) + x.2.m * x.2.o := IntWalk.i64_in _ (by omega)
      go_wp2
      go_quiet (fail)
      go_wp2
      go_roundg ys'.length
      case measure => have := Hk.out; simp at this; omega
      case rel => exact ⟨⟨_, by first | exact World.drewN_drewN _ _ _ | rfl⟩, xs ++ [x], ys', by rw [Hsp.out]; simp, rfl, Hv.out.symm, by rw [secs_append, show secs [x] = [x.2] from rfl, ohmsL_snoc]⟩

end Go.Proofs.Ytodboccadccpfaa
