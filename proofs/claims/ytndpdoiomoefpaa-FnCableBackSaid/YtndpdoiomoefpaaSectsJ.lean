/-
  The chain's method join.
-/
import Derived.Test.YtndpdoiomoefpaaSects
namespace Go.Proofs.Ytndpdoiomoefpaa
open Go.RowKit

set_option maxRecDepth 100000 in
set_option maxHeartbeats 1000000 in
theorem join_c (P Q : Nat → Prop) (C D : Nat) (ns ms : List (Nat × Sec)) (w : World) (h : Chain P w C ns) (h2 : Chain Q w D ms) (hPQ : ∀ k, k < w.heap.size → Q k → ¬ P k) (hP : ∀ k, w.heap.size ≤ k → P k) :
    Calls Try.prog 107 #[.pointer (some ⟨C, 0, none⟩), .pointer (some ⟨D, 0, none⟩)] w fun e w' => (∃ v, e = .returned v) ∧ (∃ rs, Chain P w' C rs ∧ secs rs = secs ns ++ secs ms) ∧ Frm P w w' := by
  have hd0 := h2.c0
  obtain ⟨u, hu⟩ := nxt_pointer ms
  rw [hu] at hd0
  have Hu := Lib.hid hu
  have H := Lib.hid h
  have H2 := Lib.hid h2
  have HPQ := Lib.hid hPQ
  have HP := Lib.hid hP
  clear hu h h2 hPQ hP
  go_enter Try.func107, Try.ntmps107
  go_wp2
  go_loopg [4] ms.length (fun k l wr => ∃ xs ys rs : List (Nat × Sec), ms = xs ++ ys ∧ ys.length = k ∧ l = nxt ys ∧ secs rs = secs ns ++ secs xs ∧ Chain P wr C rs ∧ Frm P w wr)
  case atStart => exact ⟨[], ms, ns, rfl, rfl, Hu.out.symm, by simp [secs], H.out, Frm.refl _ _⟩
  case round =>
    obtain ⟨xs, ys, rs, hsp, hk, rfl, hrs, hC, hf⟩ := hrel
    have Hsp := Lib.hid hsp
    have Hk := Lib.hid hk
    have Hrs := Lib.hid hrs
    have HC := Lib.hid hC
    have Hf := Lib.hid hf
    clear hsp hk hrs hC hf
    cases ys with
    | nil =>
      rw [nxt_nil]
      go_wp2
      go_end0
      exact ⟨⟨_, rfl⟩, ⟨rs, HC.out, by rw [Hrs.out, Hsp.out, List.append_nil]⟩, Hf.out⟩
    | cons x ys' =>
      obtain ⟨nx, hv⟩ := nxt_pointer ys'
      have hseg := (H2.out.kept Hf.out HPQ.out).seg
      rw [Hsp.out] at hseg
      have hm := hseg.mid
      have hm0 := hm.c0
      have hm1 := hm.c1
      have hm2 := hm.c2
      have Hv := Lib.hid hv
      clear hv hm hseg
      rw [nxt_cons]
      go_wp2_with fail
      refine (add_c P C rs x.2 _ HC.out (fun k hk => HP.out k (by have := Hf.out.size; omega))).mono ?_
      rintro e w2 ⟨⟨v2, rfl⟩, ⟨N, hC2⟩, hf2⟩
      have HC2 := Lib.hid hC2
      have Hf2 := Lib.hid (Hf.out.trans hf2)
      clear hC2 hf2
      have hseg2 := (H2.out.kept Hf2.out HPQ.out).seg
      rw [Hsp.out] at hseg2
      have hn3 := hseg2.mid.c3
      rw [Hv.out] at hn3
      clear hseg2 hm0 hm1 hm2
      go_wp2
      go_roundg ys'.length
      case measure => have := Hk.out; simp at this; omega
      case rel => exact ⟨xs ++ [x], ys', _, by rw [Hsp.out]; simp, rfl, Hv.out.symm, by rw [secs_snoc, Hrs.out, secs_append, show secs [x] = [x.2] from rfl, List.append_assoc], HC2.out, Hf2.out⟩

end Go.Proofs.Ytndpdoiomoefpaa
