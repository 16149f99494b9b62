/-
  usage.add of the program.
-/
import Derived.Test.YtbnpglljloaclaaTfI0
import Derived.Test.YtbnpglljloaclaaTfA
namespace Go.Proofs.Ytbnpglljloaclaa
open Go.RowKit Go.Maps

theorem grown_newT {a b c : World} {row row' : Option Nat} (h : a.grownBy b row) (k : b.grownBy c row') (hr : ∀ r, row' = some r → a.heap.size ≤ r) : a.grownBy c row :=
  ⟨k.os.trans h.os, k.tape.trans h.tape, k.output.trans h.output, Nat.le_trans h.size k.size, fun i hi hne => (k.block i (Nat.lt_of_lt_of_le hi h.size) (fun e => by have := hr i e.symm; omega)).trans (h.block i hi hne)⟩
theorem grown_none {a b : World} (h : a.grownBy b none) (row : Option Nat) : a.grownBy b row := ⟨h.os, h.tape, h.output, h.size, fun i hi _ => h.block i hi (by simp)⟩

set_option maxRecDepth 100000 in
set_option maxHeartbeats 8000000 in
theorem add_c (B C : Nat) (L M : List Int) (w : World) (hu : Usg w B L) (hv : Usg w C M) (hBC : B ≠ C) (hlm : M.length = L.length) (hll : L.length ≤ 10) (hbL : ∀ k, k < L.length → -9 ≤ ldAt L k ∧ ldAt L k ≤ 9) (hbM : ∀ k, k < M.length → -9 ≤ ldAt M k ∧ ldAt M k ≤ 9) :
    Calls Try.prog 83 #[.map (some B), .map (some C)] w (RetW B (sumL L M) w) := by
  obtain ⟨hlmA, hlmB⟩ : M.length ≤ L.length ∧ L.length ≤ M.length := by omega
  clear hlm
  have hBl := hu.lt
  have hCl := hv.lt
  obtain ⟨D, hown, hsz, hD⟩ := hv.look
  have HD := Lib.hid hD
  have Hown := Lib.hid hown
  have HU := Lib.hid hu
  have HbL := Lib.hid hbL
  have HbM := Lib.hid hbM
  clear hu hv hown hD hbL hbM
  go_enter Try.func83, Try.ntmps83
  go_wp2_with (first
    | (at_range; refine wpList_range_own _ rfl _ 80 rfl 3 3 keyI Try.underlying80 _ C _ _ rfl Hown.out ?_; intro w0 hrg0 hg0 hs0)
    | go_in)
  have Hg0 := Lib.hid hg0
  have HU0 := Lib.hid (HU.out.kept hg0 (by simp))
  have Hrg0 := Lib.hid hrg0
  have Hs0 := Lib.hid hs0
  clear hrg0 hg0 hs0 Hown
  go_frame
  go_loopw [8] (fun _ wr => ∃ (left : Lit → Bool) (cnt : Nat), wr.ranges Try.prog 3 (plainElem Try.prog 3) C w.heap.size M.length D left cnt ∧ (∀ kl, left kl = true → has D kl = true) ∧ Usg wr B (adL L M left) ∧ w.grownBy wr (some B))
    (fun _ wr => wr.rangeLeft C w.heap.size)
  case atStart =>
    refine ⟨_, _, Hrg0.out, fun _ h => h, ?_, grown_none Hg0.out _⟩
    rw [adL_start (fun i hi => (HD.out.2 _).2 ⟨i, by omega, rfl⟩)]
    exact HU0.out
  case round =>
    obtain ⟨left, cnt, hrg, hsub, hu, hg⟩ := hrel
    have Hg := Lib.hid hg
    have Hsub := Lib.hid hsub
    have HU1 := Lib.hid hu
    have Hrg := Lib.hid hrg
    clear hg hsub hu hrg
    go_wp2_with (first
      | (at_next; refine wpList_next_ranges_ii _ rfl _ rfl 3 3 .i64 .i64 keyI Try.underlying3 Try.underlying3 C w.heap.size M.length _ _ _ rfl Hrg.out ?_ ?_)
      | go_in)
    · intro _ hl0
      have HL0 := Lib.hid hl0
      clear hl0
      go_wp2
      refine bodyPost_end (results_none rfl _ _ _) rfl ?_
      exact ⟨⟨_, rfl⟩, by rw [← adL_end HL0.out]; exact HU1.out, Hg.out⟩
    · intro x cv w1 cnt1 hwx hwc hlx hat hrg1 hlt hg1 hs1 hen
      obtain ⟨i, hi, ex⟩ := (HD.out.2 _).1 (Hsub.out _ hlx)
      obtain rfl : x = (i : Int) := by injection ex
      have hcv : cv = ldAt M i := usd_at HD.out hi (hat _)
      have hiL : i < L.length := by omega
      have hg1n : wr.grownBy w1 (some w.heap.size) := hg1
      have hU1 : Usg w1 B (adL L M left) := HU1.out.kept hg1 (by intro e; injection e with e; omega)
      obtain ⟨D1, hown1, hsz1, hD1⟩ := hU1.look
      have hw0 : (Lit.int .i64 (i : Int)).wf = true := wf_of (by omega)
      have hil : i < (adL L M left).length := by rw [adL_len]; exact hiL
      have hrun := hU1.run hil hw0
      have hal := adL_at (M := M) hiL hlx
      have hst := adL_step (M := M) hiL hlx hw0
      have b1 := HbL.out i hiL
      have b2 := HbM.out i hi
      rw [hal] at hrun
      rw [← hcv] at hst b2
      obtain ⟨l, hl⟩ : ∃ l, ldAt L i = l := ⟨_, rfl⟩
      rw [hl] at hrun hst b1
      have Hfin : Hid (∀ W, W.ownsMap Try.prog 3 (plainElem Try.prog 3) B ((adL L M left).length + 1) (D1.put (.int .i64 (i : Int)) (.lit (.int .i64 (l + cv)))) → Usg W B (adL L M (fun z => left z && !z.sameKey (.int .i64 (i : Int))))) := Lib.hid (fun W h => by rw [hst]; exact Usg.set hD1 hsz1 hil hw0 hown1 h)
      have hml : (adL L M left).length < maxLen := by rw [adL_len]; unfold maxLen; omega
      have Hml := Lib.hid hml
      have Hown1 := Lib.hid hown1
      have Hw0 := Lib.hid hw0
      have Hrg1 := Lib.hid hrg1
      have Hsub1 : Hid (∀ kl, (left kl && !kl.sameKey (.int .i64 (i : Int))) = true → has D kl = true) := Lib.hid (fun kl h => Hsub.out kl (by rw [Bool.and_eq_true] at h; exact h.1))
      have Hlt := Lib.hid hlt
      have Hg1 : Hid (w.grownBy w1 (some B)) := Lib.hid (grown_newT Hg.out hg1 (fun r e => by injection e with e; omega))
      obtain ⟨p1, p2⟩ := b1
      obtain ⟨p3, p4⟩ := b2
      have Hwf : Hid ((Lit.int .i64 (l + cv)).wf = true) := Lib.hid (wf_of (by omega))
      clear hg1n hU1 hown1 hsz1 hD1 hw0 hal hst hml hrg1 hlt hg1 hwx hwc hlx hat ex hcv hl hs1
      go_wp2_with (first
        | (at_mapUpdate; refine wpList_mapUpdate_own _ rfl _ _ _ 80 rfl 3 3 keyI Try.underlying80 _ B _ _ rfl Hown1.out Hml.out _ _ _ rfl rfl (keyOf_int_mk Try.underlying3 Hw0.out) _ [] (plainElem_int Try.underlying3 Hwf.out) ?_; intro w2 hown2 hgrow2)
        | go_in)
      have Hown2 := Lib.hid hown2
      have Hgrow2 := Lib.hid hgrow2
      have n1 : some C ≠ some B := by intro e; injection e with e; omega
      have n2 : some w.heap.size ≠ some B := by intro e; injection e with e; omega
      have Hrg2 := Lib.hid (Hrg1.out.kept hgrow2 n1 n2)
      clear hown2 hgrow2
      go_roundw
      case rel => exact ⟨_, _, _, _, _, _, _, _, _, _, _, _, ⟨_, cnt1, Hrg2.out, Hsub1.out, Hfin.out _ Hown2.out, grown_then Hg1.out Hgrow2.out⟩, rfl⟩
      case measure =>
        rw [Hrg2.out.left_eq, Hrg.out.left_eq]
        exact Hlt.out

end Go.Proofs.Ytbnpglljloaclaa
