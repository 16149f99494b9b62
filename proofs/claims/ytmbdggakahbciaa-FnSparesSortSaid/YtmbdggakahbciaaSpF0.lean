/-
  SparesFit of both.
-/
import Derived.Test.YtmbdggakahbciaaSvBI
import Derived.Test.YtmbdggakahbciaaAppZ
import Derived.Deep.RegionHeld3

namespace Go.Proofs.Ytmbdggakahbciaa
open Go.RowKit

/-- the best one of the first k, -1 for none -/
def fitN (L : List Spr) (d : Spr) : Nat → Int
  | 0 => -1
  | k + 1 => if srvB (sprAt L k) d = true ∧ (fitN L d k < 0 ∨ (sprAt L k).m < (sprAt L (fitN L d k).toNat).m) then (k : Int) else fitN L d k
def fitV (L : List Spr) (d : Spr) : Int := (serveL L [d])[0]?.getD 0
theorem sprB_one (n : Nat) (h : 1 ≤ n) (d : Spr) : sprB n [d] = sprOk d := by simp [sprB, h]
theorem sf_one (L : List Spr) (d : Spr) (k : Nat) : sf L [d] [] (k : Int) = srvB (sprAt L k) d := by unfold sf; simp [sprAt]
theorem fitN_bst (L : List Spr) (d : Spr) : ∀ k, (bst (sumZ L) (preS L [d] [] k) = none ∧ fitN L d k = -1) ∨ ∃ j : Nat, bst (sumZ L) (preS L [d] [] k) = some [(j : Int)] ∧ fitN L d k = j ∧ j < k
  | 0 => .inl ⟨rfl, rfl⟩
  | k + 1 => by
    have hsf := sf_one L d k
    cases h : srvB (sprAt L k) d
    · rw [h] at hsf
      rw [preS_no hsf, show fitN L d (k + 1) = fitN L d k by rw [fitN, if_neg (by rw [h]; simp)]]
      rcases fitN_bst L d k with h1 | ⟨j, h1, h2, h3⟩
      · exact .inl h1
      · exact .inr ⟨j, h1, h2, by omega⟩
    · rw [h] at hsf
      have hs : ∀ j : Nat, sumZ L [(j : Int)] = (sprAt L j).m := fun j => by simp [sumZ]
      rw [preS_yes hsf, fromS_end (by simp), List.nil_append, bst_snoc]
      rcases fitN_bst L d k with ⟨h1, h2⟩ | ⟨j, h1, h2, h3⟩
      · refine .inr ⟨k, by rw [h1]; rfl, ?_, by omega⟩
        rw [fitN, if_pos ⟨h, .inl (by omega)⟩]
      · rw [h1]
        simp only [mrg]
        rw [hs, hs]
        by_cases hlt : (sprAt L k).m < (sprAt L j).m
        · refine .inr ⟨k, by rw [if_pos hlt], ?_, by omega⟩
          rw [fitN, if_pos ⟨h, .inr (by rw [h2, Int.toNat_natCast]; exact hlt)⟩]
        · refine .inr ⟨j, by rw [if_neg hlt], ?_, by omega⟩
          rw [fitN, if_neg, h2]
          rintro ⟨_, h4 | h4⟩
          · omega
          · rw [h2, Int.toNat_natCast] at h4; exact hlt h4
theorem fitN_step_yes {L : List Spr} {d : Spr} {k : Nat} (h : srvB (sprAt L k) d = true) (h2 : fitN L d k < 0 ∨ (sprAt L k).m < (sprAt L (fitN L d k).toNat).m) : fitN L d (k + 1) = (k : Int) := by rw [fitN, if_pos ⟨h, h2⟩]
theorem fitN_step_no {L : List Spr} {d : Spr} {k : Nat} (h : ¬ (srvB (sprAt L k) d = true ∧ (fitN L d k < 0 ∨ (sprAt L k).m < (sprAt L (fitN L d k).toNat).m))) : fitN L d (k + 1) = fitN L d k := by rw [fitN, if_neg h]
theorem fitN_bd (L : List Spr) (d : Spr) (k : Nat) : -1 ≤ fitN L d k ∧ fitN L d k < k := by
  rcases fitN_bst L d k with ⟨_, h⟩ | ⟨j, _, h, h2⟩ <;> omega
theorem fit_all {L : List Spr} {d : Spr} (h : bothB L [d] = true) : (fitN L d L.length < 0 → serveB L [d] = false ∧ fitV L d = 0) ∧ (¬ fitN L d L.length < 0 → serveB L [d] = true ∧ fitV L d = fitN L d L.length) := by
  have hg : serveG L [d] = bst (sumZ L) (preS L [d] [] L.length) := by unfold serveG; rw [if_pos h, allS_from, preS_all (by simp)]
  unfold serveB fitV serveL
  rw [hg]
  rcases fitN_bst L d L.length with ⟨h1, h2⟩ | ⟨j, h1, h2, _⟩
  · rw [h1]
    exact ⟨fun _ => ⟨rfl, rfl⟩, fun h => absurd (by omega) h⟩
  · rw [h1, h2]
    exact ⟨fun h => by omega, fun _ => ⟨rfl, rfl⟩⟩
theorem fit_no {L : List Spr} {d : Spr} (h : serveB L [d] = false) : fitV L d = 0 := by unfold fitV; rw [serve_none h]; rfl
theorem bothB_one1 {L : List Spr} {d : Spr} (h : sprB 10 [d] = false) : bothB L [d] = false := by unfold bothB; rw [sprB_one 5 (by omega), ← sprB_one 10 (by omega), h]; simp
theorem bothB_one2 {L : List Spr} {d : Spr} (h1 : sprB 10 L = true) (h : sprB 10 [d] = true) : bothB L [d] = true := by unfold bothB; rw [sprB_one 5 (by omega), ← sprB_one 10 (by omega), h, h1]; rfl

set_option maxRecDepth 100000 in
set_option maxHeartbeats 1000000 in
theorem implSparesFit_b (A : Option Addr) (c : Nat) (L : List Spr) (d : Spr) (w : World) (ha : ArgZ w A c L) :
    Calls Try.prog 26 #[.slice A L.length c, .agg #[.int .i64 d.m, .int .i64 d.k]] w (RetB (.tuple #[.int .i64 (fitV L d), .bool (serveB L [d])]) w) := by
  obtain ⟨w0, hw0⟩ : ∃ w0, w.alloc (.cells #[.int .i64 d.m, .int .i64 d.k] 30) = w0 := ⟨_, rfl⟩
  have hb0 : Below w.heap.size w w0 := by rw [← hw0]; exact (Below.refl _ _).alloc (Nat.le_refl _) _
  have c0 : w0.cell? ⟨w.heap.size, 0, none⟩ = some (.int .i64 d.m) := by rw [← hw0]; exact cell_of_row _ _ 0 _ _ _ (heap_alloc_new w _)
  have c1 : w0.cell? ⟨w.heap.size, 1, none⟩ = some (.int .i64 d.k) := by rw [← hw0]; exact cell_of_row _ _ 1 _ _ _ (heap_alloc_new w _)
  have Hone := Lib.hid (show ArgZ (w0.alloc (.cells #[.int .i64 d.m, .int .i64 d.k] 30)) (some ⟨w.heap.size + 1, 0, none⟩) 1 [d] by rw [show w.heap.size + 1 = w0.heap.size by rw [← hw0]; simp]; exact argZ_one w0 d _)
  have HA := Lib.hid (ha.go hb0)
  have Hb0 := Lib.hid hb0
  have Hc := Lib.hid (And.intro c0 c1)
  have Hw0 := Lib.hid hw0
  rw [← hw0] at c0 c1
  clear ha hb0 hw0
  go_enter Try.func26, Try.ntmps26
  go_wp2_with fail
  rw [Hw0.out]
  have hb1 : Below w0.heap.size w0 (w0.alloc (.cells #[.int .i64 d.m, .int .i64 d.k] 30)) := (Below.refl _ _).alloc (Nat.le_refl _) _
  refine (implServeBest_b A c L (some ⟨w.heap.size + 1, 0, none⟩) 1 [d] _ (HA.out.go hb1) Hone.out).mono ?_
  rintro e w2 ⟨B3, d3, rfl, ra3, ro3, rb3⟩
  dsimp only
  have Hb3 := Lib.hid (below_step (below_step Hb0.out hb1) rb3)
  have Hr3 := Lib.hid ra3
  clear ra3 ro3 rb3 hb1 c0 c1
  cases hv : serveB L [d]
  · have Hf := Lib.hid (fit_no hv)
    have Hv := Lib.hid hv
    clear hv
    go_wp2
    go_ret2
    exact ⟨by rw [Hf.out, Hv.out]; rfl, Hb3.out⟩
  · have hlen : (serveL L [d]).length = 1 := by
      obtain ⟨x, _, _, hx⟩ := serve_some hv
      unfold serveB at hv
      obtain ⟨y, hy⟩ := Option.isSome_iff_exists.1 hv
      have h1 := (serveG_len hy).1
      unfold serveL; rw [hy]; exact h1
    have Hv := Lib.hid hv
    obtain ⟨b, off, rfl, _, _, hc⟩ := Hr3.out.rd.at_ (k := 0) (by omega)
    have hc2 : w2.cell? ⟨b, off, none⟩ = some (.int .i64 (fitV L d)) := hc
    clear hv hc
    go_wp2
    go_ret2
    exact ⟨by rw [Hv.out]; rfl, Hb3.out⟩

end Go.Proofs.Ytmbdggakahbciaa
