/-
  SparesFit of both.
-/
import Derived.Test.YtkicifkigbciaaaSvBI
import Derived.Test.YtkicifkigbciaaaAppZ
import Derived.Deep.RegionHeld3

namespace Go.Proofs.Ytkicifkigbciaaa
open Go.RowKit

/-- the best one of the first k, -1 for none -/
def fitN (L : List Spr) (d : Spr) : Nat → Int
  | 0 => -1
  | k + 1 => if srvB (sprAt L k) d = true ∧ (fitN L d k < 0 ∨ (sprAt L k).m < (sprAt L (fitN L d k).toNat).m) then (k : Int) else fitN L d k
def fitV (L : List Spr) (d : Spr) : Int := (serveL L [d])[0]?.getD 0
theorem sprB_one (n : Nat) (h : 1 ≤ n) (d : Spr) : sprB n [d] = sprOk d := by simp [sprB, h]
theorem sf_one (L : List Spr) (d : Spr) (k : Nat) : sf L [d] [] (k : Int) = srvB (sprAt L k) d := by unfold sf; simp [sprAt]
theorem fitN_bst (L : List Spr) (d : Spr) : ∀ k, (bst (sumZ L) (preS L [d] [] k) = none ∧ fitN L d k = -1) ∨ ∃ j : Nat, bst (sumZ L) (preS L [d] [] k) = some [(j : Int)] ∧ fitN L d k = j ∧ j < k
  | 0 => .inl ⟨rfl, rfl⟩
  | k + 1 => by
    have hsf := sf_one L d k
    cases h : srvB (sprAt L k) d
    · rw [h] at hsf
      rw [preS_no hsf, show fitN L d (k + 1) = fitN L d k by rw [fitN, if_neg (by rw [h]; simp)]]
      rcases fitN_bst L d k with h1 | ⟨j, h1, h2, h3⟩
      · exact .inl h1
      · exact .inr ⟨j, h1, h2, by omega⟩
    · rw [h] at hsf
      have hs : ∀ j : Nat, sumZ L [(j : Int)] = (sprAt L j).m := fun j => by simp [sumZ]
      rw [preS_yes hsf, fromS_end (by simp), List.nil_append, bst_snoc]
      rcases fitN_bst L d k with ⟨h1, h2⟩ | ⟨j, h1, h2, h3⟩
      · refine .inr ⟨k, by rw [h1]; rfl, ?_, by omega⟩
        rw [fitN, if_pos ⟨h, .inl (by omega)⟩]
      · rw [h1]
        simp only [mrg]
        rw [hs, hs]
        by_cases hlt : (sprAt L k).m < (sprAt L j).m
        · refine .inr ⟨k, by rw [if_pos hlt], ?_, by omega⟩
          rw [fitN, if_pos ⟨h, .inr (by rw [h2, Int.toNat_natCast]; exact hlt)⟩]
        · refine .inr ⟨j, by rw [if_neg hlt], ?_, by omega⟩
          rw [fitN, if_neg, h2]
          rintro ⟨_, h4 | h4⟩
          · omega
          · rw [h2, Int.toNat_natCast] at h4; exact hlt h4
theorem fitN_step_yes {L : List Spr} {d : Spr} {k : Nat} (h : srvB (sprAt L k) d = true) (h2 : fitN L d k < 0 ∨ (sprAt L k).m < (sprAt L (fitN L d k).toNat).m) : fitN L d (k + 1) = (k : Int) := by rw [fitN, if_pos ⟨h, h2⟩]
theorem fitN_step_no {L : List Spr} {d : Spr} {k : Nat} (h : ¬ (srvB (sprAt L k) d = true ∧ (fitN L d k < 0 ∨ (sprAt L k).m < (sprAt L (fitN L d k).toNat).m))) : fitN L d (k + 1) = fitN L d k := by rw [fitN, if_neg h]
theorem fitN_bd (L : List Spr) (d : Spr) (k : Nat) : -1 ≤ fitN L d k ∧ fitN L d k < k := by
  rcases fitN_bst L d k with ⟨_, h⟩ | ⟨j, _, h, h2⟩ <;> omega
theorem fit_all {L : List Spr} {d : Spr} (h : bothB L [d] = true) : (fitN L d L.length < 0 → serveB L [d] = false ∧ fitV L d = 0) ∧ (¬ fitN L d L.length < 0 → serveB L [d] = true ∧ fitV L d = fitN L d L.length) := by
  have hg : serveG L [d] = bst (sumZ L) (preS L [d] [] L.length) := by unfold serveG; rw [if_pos h, allS_from, preS_all (by simp)]
  unfold serveB fitV serveL
  rw [hg]
  rcases fitN_bst L d L.length with ⟨h1, h2⟩ | ⟨j, h1, h2, _⟩
  · rw [h1]
    exact ⟨fun _ => ⟨rfl, rfl⟩, fun h => absurd (by omega) h⟩
  · rw [h1, h2]
    exact ⟨fun h => by omega, fun _ => ⟨rfl, rfl⟩⟩
theorem fit_no {L : List Spr} {d : Spr} (h : serveB L [d] = false) : fitV L d = 0 := by unfold fitV; rw [serve_none h]; rfl
theorem bothB_one1 {L : List Spr} {d : Spr} (h : sprB 10 [d] = false) : bothB L [d] = false := by unfold bothB; rw [sprB_one 5 (by omega), ← sprB_one 10 (by omega), h]; simp
theorem bothB_one2 {L : List Spr} {d : Spr} (h1 : sprB 10 L = true) (h : sprB 10 [d] = true) : bothB L [d] = true := by unfold bothB; rw [sprB_one 5 (by omega), ← sprB_one 10 (by omega), h, h1]; rfl

set_option maxRecDepth 100000 in
set_option maxHeartbeats 1000000 in
theorem implSparesFit_b (A : Option Addr) (c : Nat) (L : List Spr) (d : Spr) (w : World) (ha : ArgZ w A c L) :
    Calls Try.prog 20 #[.slice A L.length c, .agg #[.int .i64 d.m, .int .i64 d.k]] w (RetB (.tuple #[.int .i64 (fitV L d), .bool (serveB L [d])]) w) := by
  obtain ⟨w0, hw0⟩ : ∃ w0, w.alloc (.cells #[.int .i64 d.m, .int .i64 d.k] 25) = w0 := ⟨_, rfl⟩
  have hb0 : Below w.heap.size w w0 := by rw [← hw0]; exact (Below.refl _ _).alloc (Nat.le_refl _) _
  have c0 : w0.cell? ⟨w.heap.size, 0, none⟩ = some (.int .i64 d.m) := by rw [← hw0]; exact cell_of_row _ _ 0 _ _ _ (heap_alloc_new w _)
  have c1 : w0.cell? ⟨w.heap.size, 1, none⟩ = some (.int .i64 d.k) := by rw [← hw0]; exact cell_of_row _ _ 1 _ _ _ (heap_alloc_new w _)
  have Hone := Lib.hid (show ArgZ (w0.alloc (.cells #[.int .i64 d.m, .int .i64 d.k] 25)) (some ⟨w.heap.size + 1, 0, none⟩) 1 [d] by rw [show w.heap.size + 1 = w0.heap.size by rw [← hw0]; simp]; exact argZ_one w0 d _)
  have HA := Lib.hid (ha.go hb0)
  have Hb0 := Lib.hid hb0
  have Hc := Lib.hid (And.intro c0 c1)
  have Hw0 := Lib.hid hw0
  rw [← hw0] at c0 c1
  clear ha hb0 hw0
  go_enter Try.func20, Try.ntmps20
  go_wp2_with fail
  rw [Hw0.out]
  have hb1 : Below w0.heap.size w0 (w0.alloc (.cells #[.int .i64 d.m, .int .i64 d.k] 25)) := (Below.refl _ _).alloc (Nat.le_refl _) _
  refine (implServeBest_b A c L (some ⟨w.heap.size + 1, 0, none⟩) 1 [d] _ (HA.out.go hb1) Hone.out).mono ?_
  rintro e w2 ⟨B3, d3, rfl, ra3, ro3, rb3⟩
  dsimp only
  have Hb3 := Lib.hid (below_step (below_step Hb0.out hb1) rb3)
  have Hr3 := Lib.hid ra3
  clear ra3 ro3 rb3 hb1 c0 c1
  cases hv : serveB L [d]
  · have Hf := Lib.hid (fit_no hv)
    have Hv := Lib.hid hv
    clear hv
    go_wp2
    go_ret2
    exact ⟨by rw [Hf.out, Hv.out]; rfl, Hb3.out⟩
  · have hlen : (serveL L [d]).length = 1 := by
      obtain ⟨x, _, _, hx⟩ := serve_some hv
      unfold serveB at hv
      obtain ⟨y, hy⟩ := Option.isSome_iff_exists.1 hv
      have h1 := (serveG_len hy).1
      unfold serveL; rw [hy]; exact h1
    have Hv := Lib.hid hv
    obtain ⟨b, off, rfl, _, _, hc⟩ := Hr3.out.rd.at_ (k := 0) (by omega)
    have hc2 : w2.cell? ⟨b, off, none⟩ = some (.int .i64 (fitV L d)) := hc
    clear hv hc
    go_wp2
    go_ret2
    exact ⟨by rw [Hv.out]; rfl, Hb3.out⟩

theorem fit_load (W : World) (b o : Nat) (s : Spr) (h : SprAt W b o s) : W.cell? ⟨b, o, none⟩ = some (.int .i64 s.m) ∧ W.cell? ⟨b, o + 1, none⟩ = some (.int .i64 s.k) := h

set_option maxRecDepth 100000 in
set_option maxHeartbeats 8000000 in
theorem specSparesFit_b (A : Option Addr) (c : Nat) (L : List Spr) (d : Spr) (w : World) (ha : ArgZ w A c L) :
    Calls Try.prog 21 #[.slice A L.length c, .agg #[.int .i64 d.m, .int .i64 d.k]] w (RetB (.tuple #[.int .i64 (fitV L d), .bool (serveB L [d])]) w) := by
  have hlen := ha.len
  obtain ⟨w0, hw0⟩ : ∃ w0, w.alloc (.cells #[.int .i64 d.m, .int .i64 d.k] 25) = w0 := ⟨_, rfl⟩
  have hb0 : Below w.heap.size w w0 := by rw [← hw0]; exact (Below.refl _ _).alloc (Nat.le_refl _) _
  have hs0 : w.heap.size < w0.heap.size := by rw [← hw0]; simp
  have hd : SprAt w0 w.heap.size 0 d := ⟨by rw [← hw0]; exact cell_of_row _ _ 0 _ _ _ (heap_alloc_new w _), by rw [← hw0]; exact cell_of_row _ _ 1 _ _ _ (heap_alloc_new w _)⟩
  have HA := Lib.hid (ha.go hb0)
  have Hb0 := Lib.hid hb0
  have Hd := Lib.hid hd
  have Hw0 := Lib.hid hw0
  clear ha hb0 hw0 hd
  go_enter Try.func21, Try.ntmps21
  go_wp2
  rw [Hw0.out]
  go_loopw [6, 7] (fun bv iv wr => ∃ k : Nat, k ≤ L.length ∧ iv = .int .i64 k ∧ bv = .int .i64 (fitN L d k) ∧ (0 < k → bothB L [d] = true) ∧ Below w0.heap.size w0 wr) (fun _ iv _ => L.length - (intOf iv).toNat)
  case atStart => exact ⟨0, Nat.zero_le _, rfl, rfl, fun h => absurd h (by omega), Below.refl _ _⟩
  case round =>
    obtain ⟨k, hk, rfl, rfl, hB, hb⟩ := hrel
    have HB := Lib.hid hB
    have Hb := Lib.hid hb
    clear hB hb
    by_cases hlt : k < L.length
    · have g1 : (k : Int) < (L.length : Int) := by omega
      have hbd := fitN_bd L d k
      go_wp2_with fail
      refine (specSparesValid_b A c L _ (HA.out.go Hb.out)).mono ?_
      rintro e w1 ⟨rfl, hb1⟩
      have Hb1 := Lib.hid (below_step Hb.out hb1)
      clear hb1
      cases hv : sprB 10 L
      · have Hf := Lib.hid (bothB_not1 (Nd := [d]) hv)
        have hk0 : k = 0 := by
          rcases Nat.eq_zero_or_pos k with h | h
          · exact h
          · have := HB.out h; rw [Hf.out] at this; cases this
        subst hk0
        have Hs := Lib.hid (show serveB L [d] = false by unfold serveB serveG; rw [Hf.out]; rfl)
        have Hn := Lib.hid (show fitN L d 0 = -1 from rfl)
        clear hv
        rw [Hn.out]
        go_wp2
        go_ret2
        exact ⟨by rw [fit_no Hs.out, Hs.out]; rfl, below_step Hb0.out Hb1.out⟩
      have Hv := Lib.hid hv
      clear hv
      obtain ⟨e0, e1⟩ := Hd.out.below Hb1.out hs0
      obtain ⟨w2, hw2⟩ : ∃ w2, w1.alloc (.cells #[.int .i64 d.m, .int .i64 d.k] 25) = w2 := ⟨_, rfl⟩
      have hone : ArgZ w2 (some ⟨w1.heap.size, 0, none⟩) 1 [d] := by rw [← hw2]; exact argZ_one w1 d _
      have Hb2 := Lib.hid (show Below w0.heap.size w0 w2 by rw [← hw2]; exact Hb1.out.alloc Hb1.out.size _)
      have Hone := Lib.hid hone
      have Hw2 := Lib.hid hw2
      clear hone hw2
      go_wp2_with fail
      rw [Hw2.out]
      refine (specSparesValid_b (some ⟨w1.heap.size, 0, none⟩) 1 [d] _ Hone.out).mono ?_
      rintro e w3 ⟨rfl, hb3⟩
      have Hb3 := Lib.hid (below_step Hb2.out hb3)
      clear hb3 e0 e1
      cases hv2 : sprB 10 [d]
      · have Hf := Lib.hid (bothB_one1 (L := L) hv2)
        have hk0 : k = 0 := by
          rcases Nat.eq_zero_or_pos k with h | h
          · exact h
          · have := HB.out h; rw [Hf.out] at this; cases this
        subst hk0
        have Hs := Lib.hid (show serveB L [d] = false by unfold serveB serveG; rw [Hf.out]; rfl)
        have Hn := Lib.hid (show fitN L d 0 = -1 from rfl)
        clear hv2
        rw [Hn.out]
        go_wp2
        go_ret2
        exact ⟨by rw [fit_no Hs.out, Hs.out]; rfl, below_step Hb0.out Hb3.out⟩
      have HB2 := Lib.hid (bothB_one2 Hv.out hv2)
      clear hv2
      obtain ⟨b, off, rfl, _, hbw, f0, f1⟩ := (HA.out.go Hb3.out).rd.at_ hlt
      obtain ⟨d0, d1⟩ := fit_load _ _ _ _ (Hd.out.below Hb3.out hs0)
      have hsz3 : w.heap.size < w3.drew.heap.size := by have h1 := Hb3.out.size; have h2 : w3.drew.heap.size = w3.heap.size := rfl; omega
      rw [Nat.zero_add] at d1
      have hyes := fitN_step_yes (L := L) (d := d) (k := k)
      have hno := fitN_step_no (L := L) (d := d) (k := k)
      have hcj : ∀ j : Nat, j < k → w3.cell? ⟨b, off + j * 2, none⟩ = some (.int .i64 (sprAt L j).m) := fun j hj => by
        obtain ⟨b', off', e, _, _, h0, _⟩ := (HA.out.go Hb3.out).rd.at_ (k := j) (by omega)
        injection e with e
        injection e with e1 e2 _
        subst e1; subst e2
        exact h0
      obtain ⟨s, hs⟩ : ∃ s, sprAt L k = s := ⟨_, rfl⟩
      rw [hs] at f0 f1 hyes hno
      clear hs
      have pk1 := And.intro f0 (And.intro f1 (And.intro d0 d1))
      have Hpk := Lib.hid (fun (W : World) (h : Below w3.drew.heap.size w3.drew W) => And.intro (below_cell (x := ⟨b, off + k * 2, none⟩) h hbw f0) (And.intro (below_cell (x := ⟨b, off + k * 2 + 1, none⟩) h hbw f1) (And.intro (below_cell (x := ⟨w.heap.size, 0, none⟩) h hsz3 d0) (below_cell (x := ⟨w.heap.size, 1, none⟩) h hsz3 d1))))
      cases e2 : srvB s d
      · have Hn := Lib.hid (hno (fun h => by rw [e2] at h; cases h.1))
        have E2 := Lib.hid e2
        obtain ⟨q, hq⟩ : ∃ q, fitN L d k = q := ⟨_, rfl⟩
        rw [hq] at hbd Hn ⊢
        clear e2 hyes hno hq hcj
        go_wp2
        refine wp_region_held_drew (S := (fun w9 => w9.cell? ⟨b, off + k * 2, none⟩ = some (.int .i64 s.m) ∧ w9.cell? ⟨b, off + k * 2 + 1, none⟩ = some (.int .i64 s.k) ∧ w9.cell? ⟨w.heap.size, 0, none⟩ = some (.int .i64 d.m) ∧ w9.cell? ⟨w.heap.size, 1, none⟩ = some (.int .i64 d.k))) (by kernel_rfl) (pk1) (fun hHeld => ?_)
        refine wpAnyH_take (i := 0) (oi := { dst := some 23, op := _, type := _, pos := _, after := _, guard := _ }) (v := ?v0) rfl (by kernel_rfl) (by kernel_rfl) (by kernel_rfl) (fun _ _ _ h => h) (Or.inl ⟨by kernel_rfl, ?y0⟩) (by assumption) ?r0
        case y0 => intro w hSw; (try dsimp only at hSw); go_simp; try with_reducible rfl
        try simp only [Act.put, List.setIfInBounds_toArray, List.set_cons_zero, List.set_cons_succ]
        refine wpAnyH_take (i := 1) (oi := { dst := some 24, op := _, type := _, pos := _, after := _, guard := _ }) (v := ?v1) rfl (by kernel_rfl) (by kernel_rfl) (by kernel_rfl) (fun _ _ _ h => h) (Or.inl ⟨by kernel_rfl, ?y1⟩) (by assumption) ?r1
        case y1 => intro w hSw; (try dsimp only at hSw); go_simp; try with_reducible rfl
        try simp only [Act.put, List.setIfInBounds_toArray, List.set_cons_zero, List.set_cons_succ]
        refine wpAnyH_take (i := 2) (oi := { dst := some 25, op := _, type := _, pos := _, after := _, guard := _ }) (v := ?v2) rfl (by kernel_rfl) (by kernel_rfl) (by kernel_rfl) (fun _ _ _ h => h) (Or.inl ⟨by kernel_rfl, ?y2⟩) (by assumption) ?r2
        case y2 => intro w hSw; (try dsimp only at hSw); go_simp; try with_reducible rfl
        try simp only [Act.put, List.setIfInBounds_toArray, List.set_cons_zero, List.set_cons_succ]
        refine wpAnyH_take (i := 3) (oi := { dst := some 26, op := _, type := _, pos := _, after := _, guard := _ }) (v := ?v3) rfl (by kernel_rfl) (by kernel_rfl) (by kernel_rfl) (fun _ _ _ h => h) (Or.inl ⟨by kernel_rfl, ?y3⟩) (by assumption) ?r3
        case y3 => intro w hSw; (try dsimp only at hSw); go_simp; try with_reducible rfl
        try simp only [Act.put, List.setIfInBounds_toArray, List.set_cons_zero, List.set_cons_succ]
        refine wpAnyH_take (i := 4) (oi := { dst := some 27, op := _, type := _, pos := _, after := _, guard := _ }) (v := ?v4) rfl (by kernel_rfl) (by kernel_rfl) (by kernel_rfl) (fun _ _ _ h => h) (Or.inl ⟨by kernel_rfl, ?y4⟩) (by assumption) ?r4
        case y4 => intro w hSw; (try dsimp only at hSw); go_simp; try with_reducible rfl
        try simp only [Act.put, List.setIfInBounds_toArray, List.set_cons_zero, List.set_cons_succ]
        refine wpAnyH_ready (rs := [5]) (by kernel_rfl) (by simp) ?_
        refine AllReadyH.cons (o := { dst := some 28, op := _, type := _, pos := _, after := _, guard := _ }) rfl (fun K hK => ?_) AllReadyH.nil
        go_simp
        refine (l4Serves_c s d _).mono ?_; rintro e w4 ⟨rfl, hb4⟩; rw [E2.out]; have pk2 := Hpk.out _ hb4; have Hb4 := Lib.hid hb4; clear hb4
        go_wp2_with fail
        refine hK.out _ _ (pk2) (fun hHeld2 => ?_)
        clear hK K
        try simp only [Act.put, List.setIfInBounds_toArray, List.set_cons_zero, List.set_cons_succ]
        refine wpAnyH_take (i := 6) (oi := { dst := some 29, op := _, type := _, pos := _, after := _, guard := _ }) (v := ?v6) rfl (by kernel_rfl) (by kernel_rfl) (by kernel_rfl) (fun _ _ _ h => h) (Or.inl ⟨by kernel_rfl, ?y6⟩) (by assumption) ?r6
        case y6 => intro w hSw; (try dsimp only at hSw); go_simp; try with_reducible rfl
        try simp only [Act.put, List.setIfInBounds_toArray, List.set_cons_zero, List.set_cons_succ]
        refine wpAnyH_take (i := 7) (oi := { dst := some 30, op := _, type := _, pos := _, after := _, guard := _ }) (v := undef) rfl (by kernel_rfl) (by kernel_rfl) (by kernel_rfl) (fun _ _ _ h => h) (Or.inr ⟨by kernel_rfl, rfl⟩) (by assumption) ?_
        try simp only [Act.put, List.setIfInBounds_toArray, List.set_cons_zero, List.set_cons_succ]
        refine wpAnyH_take (i := 8) (oi := { dst := some 31, op := _, type := _, pos := _, after := _, guard := _ }) (v := undef) rfl (by kernel_rfl) (by kernel_rfl) (by kernel_rfl) (fun _ _ _ h => h) (Or.inr ⟨by kernel_rfl, rfl⟩) (by assumption) ?_
        try simp only [Act.put, List.setIfInBounds_toArray, List.set_cons_zero, List.set_cons_succ]
        refine wpAnyH_take (i := 9) (oi := { dst := some 32, op := _, type := _, pos := _, after := _, guard := _ }) (v := undef) rfl (by kernel_rfl) (by kernel_rfl) (by kernel_rfl) (fun _ _ _ h => h) (Or.inr ⟨by kernel_rfl, rfl⟩) (by assumption) ?_
        try simp only [Act.put, List.setIfInBounds_toArray, List.set_cons_zero, List.set_cons_succ]
        refine wpAnyH_take (i := 10) (oi := { dst := some 33, op := _, type := _, pos := _, after := _, guard := _ }) (v := undef) rfl (by kernel_rfl) (by kernel_rfl) (by kernel_rfl) (fun _ _ _ h => h) (Or.inr ⟨by kernel_rfl, rfl⟩) (by assumption) ?_
        try simp only [Act.put, List.setIfInBounds_toArray, List.set_cons_zero, List.set_cons_succ]
        refine wpAnyH_take (i := 11) (oi := { dst := some 34, op := _, type := _, pos := _, after := _, guard := _ }) (v := undef) rfl (by kernel_rfl) (by kernel_rfl) (by kernel_rfl) (fun _ _ _ h => h) (Or.inr ⟨by kernel_rfl, rfl⟩) (by assumption) ?_
        try simp only [Act.put, List.setIfInBounds_toArray, List.set_cons_zero, List.set_cons_succ]
        refine wpAnyH_take (i := 12) (oi := { dst := some 35, op := _, type := _, pos := _, after := _, guard := _ }) (v := undef) rfl (by kernel_rfl) (by kernel_rfl) (by kernel_rfl) (fun _ _ _ h => h) (Or.inr ⟨by kernel_rfl, rfl⟩) (by assumption) ?_
        try simp only [Act.put, List.setIfInBounds_toArray, List.set_cons_zero, List.set_cons_succ]
        refine wpAnyH_take (i := 13) (oi := { dst := some 36, op := _, type := _, pos := _, after := _, guard := _ }) (v := undef) rfl (by kernel_rfl) (by kernel_rfl) (by kernel_rfl) (fun _ _ _ h => h) (Or.inr ⟨by kernel_rfl, rfl⟩) (by assumption) ?_
        try simp only [Act.put, List.setIfInBounds_toArray, List.set_cons_zero, List.set_cons_succ]
        refine wpAnyH_take (i := 14) (oi := { dst := some 37, op := _, type := _, pos := _, after := _, guard := _ }) (v := undef) rfl (by kernel_rfl) (by kernel_rfl) (by kernel_rfl) (fun _ _ _ h => h) (Or.inr ⟨by kernel_rfl, rfl⟩) (by assumption) ?_
        try simp only [Act.put, List.setIfInBounds_toArray, List.set_cons_zero, List.set_cons_succ]
        refine wpAnyH_take (i := 15) (oi := { dst := some 38, op := _, type := _, pos := _, after := _, guard := _ }) (v := undef) rfl (by kernel_rfl) (by kernel_rfl) (by kernel_rfl) (fun _ _ _ h => h) (Or.inr ⟨by kernel_rfl, rfl⟩) (by assumption) ?_
        try simp only [Act.put, List.setIfInBounds_toArray, List.set_cons_zero, List.set_cons_succ]
        refine wpAnyH_take (i := 16) (oi := { dst := some 39, op := _, type := _, pos := _, after := _, guard := _ }) (v := undef) rfl (by kernel_rfl) (by kernel_rfl) (by kernel_rfl) (fun _ _ _ h => h) (Or.inr ⟨by kernel_rfl, rfl⟩) (by assumption) ?_
        try simp only [Act.put, List.setIfInBounds_toArray, List.set_cons_zero, List.set_cons_succ]
        refine wpAnyH_take (i := 17) (oi := { dst := some 40, op := _, type := _, pos := _, after := _, guard := _ }) (v := undef) rfl (by kernel_rfl) (by kernel_rfl) (by kernel_rfl) (fun _ _ _ h => h) (Or.inr ⟨by kernel_rfl, rfl⟩) (by assumption) ?_
        try simp only [Act.put, List.setIfInBounds_toArray, List.set_cons_zero, List.set_cons_succ]
        refine wpAnyH_take (i := 18) (oi := { dst := some 41, op := _, type := _, pos := _, after := _, guard := _ }) (v := undef) rfl (by kernel_rfl) (by kernel_rfl) (by kernel_rfl) (fun _ _ _ h => h) (Or.inr ⟨by kernel_rfl, rfl⟩) (by assumption) ?_
        try simp only [Act.put, List.setIfInBounds_toArray, List.set_cons_zero, List.set_cons_succ]
        refine wpAnyH_take (i := 19) (oi := { dst := some 42, op := _, type := _, pos := _, after := _, guard := _ }) (v := undef) rfl (by kernel_rfl) (by kernel_rfl) (by kernel_rfl) (fun _ _ _ h => h) (Or.inr ⟨by kernel_rfl, rfl⟩) (by assumption) ?_
        try simp only [Act.put, List.setIfInBounds_toArray, List.set_cons_zero, List.set_cons_succ]
        refine wpAnyH_take (i := 20) (oi := { dst := some 43, op := _, type := _, pos := _, after := _, guard := _ }) (v := undef) rfl (by kernel_rfl) (by kernel_rfl) (by kernel_rfl) (fun _ _ _ h => h) (Or.inr ⟨by kernel_rfl, rfl⟩) (by assumption) ?_
        try simp only [Act.put, List.setIfInBounds_toArray, List.set_cons_zero, List.set_cons_succ]
        refine wpAnyH_take (i := 21) (oi := { dst := some 44, op := _, type := _, pos := _, after := _, guard := _ }) (v := undef) rfl (by kernel_rfl) (by kernel_rfl) (by kernel_rfl) (fun _ _ _ h => h) (Or.inr ⟨by kernel_rfl, rfl⟩) (by assumption) ?_
        try simp only [Act.put, List.setIfInBounds_toArray, List.set_cons_zero, List.set_cons_succ]
        refine wpAnyH_take (i := 22) (oi := { dst := some 45, op := _, type := _, pos := _, after := _, guard := _ }) (v := ?v22) rfl (by kernel_rfl) (by kernel_rfl) (by kernel_rfl) (fun _ _ _ h => h) (Or.inl ⟨by kernel_rfl, ?y22⟩) (by assumption) ?r22
        case y22 => intro w hSw; (try dsimp only at hSw); go_simp; try with_reducible rfl
        try simp only [Act.put, List.setIfInBounds_toArray, List.set_cons_zero, List.set_cons_succ]
        refine wpAnyH_done (by kernel_rfl) ?_ _
        all_goals
          go_wp2
          go_roundw
          case rel => exact ⟨k + 1, by omega, by go_num, by rw [Hn.out], fun _ => HB2.out, below_step (below_drewN Hb3.out 1) Hb4.out⟩
          case measure => simp [intOf]; omega
      · have E2 := Lib.hid e2
        by_cases hq0 : fitN L d k < 0
        · have Hn := Lib.hid (hyes e2 (.inl hq0))
          rw [show fitN L d k = -1 by omega]
          clear e2 hyes hno hcj
          go_wp2
          refine wp_region_held_drew (S := (fun w9 => w9.cell? ⟨b, off + k * 2, none⟩ = some (.int .i64 s.m) ∧ w9.cell? ⟨b, off + k * 2 + 1, none⟩ = some (.int .i64 s.k) ∧ w9.cell? ⟨w.heap.size, 0, none⟩ = some (.int .i64 d.m) ∧ w9.cell? ⟨w.heap.size, 1, none⟩ = some (.int .i64 d.k))) (by kernel_rfl) (pk1) (fun hHeld => ?_)
          refine wpAnyH_take (i := 0) (oi := { dst := some 23, op := _, type := _, pos := _, after := _, guard := _ }) (v := ?vb0) rfl (by kernel_rfl) (by kernel_rfl) (by kernel_rfl) (fun _ _ _ h => h) (Or.inl ⟨by kernel_rfl, ?yb0⟩) (by assumption) ?rb0
          case yb0 => intro w hSw; (try dsimp only at hSw); go_simp; try with_reducible rfl
          try simp only [Act.put, List.setIfInBounds_toArray, List.set_cons_zero, List.set_cons_succ]
          refine wpAnyH_take (i := 1) (oi := { dst := some 24, op := _, type := _, pos := _, after := _, guard := _ }) (v := ?vb1) rfl (by kernel_rfl) (by kernel_rfl) (by kernel_rfl) (fun _ _ _ h => h) (Or.inl ⟨by kernel_rfl, ?yb1⟩) (by assumption) ?rb1
          case yb1 => intro w hSw; (try dsimp only at hSw); go_simp; try with_reducible rfl
          try simp only [Act.put, List.setIfInBounds_toArray, List.set_cons_zero, List.set_cons_succ]
          refine wpAnyH_take (i := 2) (oi := { dst := some 25, op := _, type := _, pos := _, after := _, guard := _ }) (v := ?vb2) rfl (by kernel_rfl) (by kernel_rfl) (by kernel_rfl) (fun _ _ _ h => h) (Or.inl ⟨by kernel_rfl, ?yb2⟩) (by assumption) ?rb2
          case yb2 => intro w hSw; (try dsimp only at hSw); go_simp; try with_reducible rfl
          try simp only [Act.put, List.setIfInBounds_toArray, List.set_cons_zero, List.set_cons_succ]
          refine wpAnyH_take (i := 3) (oi := { dst := some 26, op := _, type := _, pos := _, after := _, guard := _ }) (v := ?vb3) rfl (by kernel_rfl) (by kernel_rfl) (by kernel_rfl) (fun _ _ _ h => h) (Or.inl ⟨by kernel_rfl, ?yb3⟩) (by assumption) ?rb3
          case yb3 => intro w hSw; (try dsimp only at hSw); go_simp; try with_reducible rfl
          try simp only [Act.put, List.setIfInBounds_toArray, List.set_cons_zero, List.set_cons_succ]
          refine wpAnyH_take (i := 4) (oi := { dst := some 27, op := _, type := _, pos := _, after := _, guard := _ }) (v := ?vb4) rfl (by kernel_rfl) (by kernel_rfl) (by kernel_rfl) (fun _ _ _ h => h) (Or.inl ⟨by kernel_rfl, ?yb4⟩) (by assumption) ?rb4
          case yb4 => intro w hSw; (try dsimp only at hSw); go_simp; try with_reducible rfl
          try simp only [Act.put, List.setIfInBounds_toArray, List.set_cons_zero, List.set_cons_succ]
          refine wpAnyH_ready (rs := [5]) (by kernel_rfl) (by simp) ?_
          refine AllReadyH.cons (o := { dst := some 28, op := _, type := _, pos := _, after := _, guard := _ }) rfl (fun K hK => ?_) AllReadyH.nil
          go_simp
          refine (l4Serves_c s d _).mono ?_; rintro e w4 ⟨rfl, hb4⟩; rw [E2.out]; have pk2 := Hpk.out _ hb4; have Hb4 := Lib.hid hb4; clear hb4
          go_wp2_with fail
          refine hK.out _ _ (pk2) (fun hHeld2 => ?_)
          clear hK K
          try simp only [Act.put, List.setIfInBounds_toArray, List.set_cons_zero, List.set_cons_succ]
          refine wpAnyH_take (i := 6) (oi := { dst := some 29, op := _, type := _, pos := _, after := _, guard := _ }) (v := ?vb6) rfl (by kernel_rfl) (by kernel_rfl) (by kernel_rfl) (fun _ _ _ h => h) (Or.inl ⟨by kernel_rfl, ?yb6⟩) (by assumption) ?rb6
          case yb6 => intro w hSw; (try dsimp only at hSw); go_simp; try with_reducible rfl
          try simp only [Act.put, List.setIfInBounds_toArray, List.set_cons_zero, List.set_cons_succ]
          refine wpAnyH_take (i := 7) (oi := { dst := some 30, op := _, type := _, pos := _, after := _, guard := _ }) (v := ?vb7) rfl (by kernel_rfl) (by kernel_rfl) (by kernel_rfl) (fun _ _ _ h => h) (Or.inl ⟨by kernel_rfl, ?yb7⟩) (by assumption) ?rb7
          case yb7 => intro w hSw; (try dsimp only at hSw); go_simp; try with_reducible rfl
          try simp only [Act.put, List.setIfInBounds_toArray, List.set_cons_zero, List.set_cons_succ]
          refine wpAnyH_take (i := 8) (oi := { dst := some 31, op := _, type := _, pos := _, after := _, guard := _ }) (v := ?vb8) rfl (by kernel_rfl) (by kernel_rfl) (by kernel_rfl) (fun _ _ _ h => h) (Or.inl ⟨by kernel_rfl, ?yb8⟩) (by assumption) ?rb8
          case yb8 => intro w hSw; (try dsimp only at hSw); go_simp; try with_reducible rfl
          try simp only [Act.put, List.setIfInBounds_toArray, List.set_cons_zero, List.set_cons_succ]
          refine wpAnyH_take (i := 9) (oi := { dst := some 32, op := _, type := _, pos := _, after := _, guard := _ }) (v := ?vb9) rfl (by kernel_rfl) (by kernel_rfl) (by kernel_rfl) (fun _ _ _ h => h) (Or.inl ⟨by kernel_rfl, ?yb9⟩) (by assumption) ?rb9
          case yb9 => intro w hSw; (try dsimp only at hSw); go_simp; try with_reducible rfl
          try simp only [Act.put, List.setIfInBounds_toArray, List.set_cons_zero, List.set_cons_succ]
          refine wpAnyH_take (i := 10) (oi := { dst := some 33, op := _, type := _, pos := _, after := _, guard := _ }) (v := undef) rfl (by kernel_rfl) (by kernel_rfl) (by kernel_rfl) (fun _ _ _ h => h) (Or.inr ⟨by kernel_rfl, rfl⟩) (by assumption) ?_
          try simp only [Act.put, List.setIfInBounds_toArray, List.set_cons_zero, List.set_cons_succ]
          refine wpAnyH_take (i := 11) (oi := { dst := some 34, op := _, type := _, pos := _, after := _, guard := _ }) (v := undef) rfl (by kernel_rfl) (by kernel_rfl) (by kernel_rfl) (fun _ _ _ h => h) (Or.inr ⟨by kernel_rfl, rfl⟩) (by assumption) ?_
          try simp only [Act.put, List.setIfInBounds_toArray, List.set_cons_zero, List.set_cons_succ]
          refine wpAnyH_take (i := 12) (oi := { dst := some 35, op := _, type := _, pos := _, after := _, guard := _ }) (v := undef) rfl (by kernel_rfl) (by kernel_rfl) (by kernel_rfl) (fun _ _ _ h => h) (Or.inr ⟨by kernel_rfl, rfl⟩) (by assumption) ?_
          try simp only [Act.put, List.setIfInBounds_toArray, List.set_cons_zero, List.set_cons_succ]
          refine wpAnyH_take (i := 13) (oi := { dst := some 36, op := _, type := _, pos := _, after := _, guard := _ }) (v := undef) rfl (by kernel_rfl) (by kernel_rfl) (by kernel_rfl) (fun _ _ _ h => h) (Or.inr ⟨by kernel_rfl, rfl⟩) (by assumption) ?_
          try simp only [Act.put, List.setIfInBounds_toArray, List.set_cons_zero, List.set_cons_succ]
          refine wpAnyH_take (i := 14) (oi := { dst := some 37, op := _, type := _, pos := _, after := _, guard := _ }) (v := undef) rfl (by kernel_rfl) (by kernel_rfl) (by kernel_rfl) (fun _ _ _ h => h) (Or.inr ⟨by kernel_rfl, rfl⟩) (by assumption) ?_
          try simp only [Act.put, List.setIfInBounds_toArray, List.set_cons_zero, List.set_cons_succ]
          refine wpAnyH_take (i := 15) (oi := { dst := some 38, op := _, type := _, pos := _, after := _, guard := _ }) (v := undef) rfl (by kernel_rfl) (by kernel_rfl) (by kernel_rfl) (fun _ _ _ h => h) (Or.inr ⟨by kernel_rfl, rfl⟩) (by assumption) ?_
          try simp only [Act.put, List.setIfInBounds_toArray, List.set_cons_zero, List.set_cons_succ]
          refine wpAnyH_take (i := 16) (oi := { dst := some 39, op := _, type := _, pos := _, after := _, guard := _ }) (v := undef) rfl (by kernel_rfl) (by kernel_rfl) (by kernel_rfl) (fun _ _ _ h => h) (Or.inr ⟨by kernel_rfl, rfl⟩) (by assumption) ?_
          try simp only [Act.put, List.setIfInBounds_toArray, List.set_cons_zero, List.set_cons_succ]
          refine wpAnyH_take (i := 17) (oi := { dst := some 40, op := _, type := _, pos := _, after := _, guard := _ }) (v := undef) rfl (by kernel_rfl) (by kernel_rfl) (by kernel_rfl) (fun _ _ _ h => h) (Or.inr ⟨by kernel_rfl, rfl⟩) (by assumption) ?_
          try simp only [Act.put, List.setIfInBounds_toArray, List.set_cons_zero, List.set_cons_succ]
          refine wpAnyH_take (i := 18) (oi := { dst := some 41, op := _, type := _, pos := _, after := _, guard := _ }) (v := undef) rfl (by kernel_rfl) (by kernel_rfl) (by kernel_rfl) (fun _ _ _ h => h) (Or.inr ⟨by kernel_rfl, rfl⟩) (by assumption) ?_
          try simp only [Act.put, List.setIfInBounds_toArray, List.set_cons_zero, List.set_cons_succ]
          refine wpAnyH_take (i := 19) (oi := { dst := some 42, op := _, type := _, pos := _, after := _, guard := _ }) (v := undef) rfl (by kernel_rfl) (by kernel_rfl) (by kernel_rfl) (fun _ _ _ h => h) (Or.inr ⟨by kernel_rfl, rfl⟩) (by assumption) ?_
          try simp only [Act.put, List.setIfInBounds_toArray, List.set_cons_zero, List.set_cons_succ]
          refine wpAnyH_take (i := 20) (oi := { dst := some 43, op := _, type := _, pos := _, after := _, guard := _ }) (v := undef) rfl (by kernel_rfl) (by kernel_rfl) (by kernel_rfl) (fun _ _ _ h => h) (Or.inr ⟨by kernel_rfl, rfl⟩) (by assumption) ?_
          try simp only [Act.put, List.setIfInBounds_toArray, List.set_cons_zero, List.set_cons_succ]
          refine wpAnyH_take (i := 21) (oi := { dst := some 44, op := _, type := _, pos := _, after := _, guard := _ }) (v := ?vb21) rfl (by kernel_rfl) (by kernel_rfl) (by kernel_rfl) (fun _ _ _ h => h) (Or.inl ⟨by kernel_rfl, ?yb21⟩) (by assumption) ?rb21
          case yb21 => intro w hSw; (try dsimp only at hSw); go_simp; try with_reducible rfl
          try simp only [Act.put, List.setIfInBounds_toArray, List.set_cons_zero, List.set_cons_succ]
          refine wpAnyH_take (i := 22) (oi := { dst := some 45, op := _, type := _, pos := _, after := _, guard := _ }) (v := ?vb22) rfl (by kernel_rfl) (by kernel_rfl) (by kernel_rfl) (fun _ _ _ h => h) (Or.inl ⟨by kernel_rfl, ?yb22⟩) (by assumption) ?rb22
          case yb22 => intro w hSw; (try dsimp only at hSw); go_simp; try with_reducible rfl
          try simp only [Act.put, List.setIfInBounds_toArray, List.set_cons_zero, List.set_cons_succ]
          refine wpAnyH_done (by kernel_rfl) ?_ _
          all_goals
            go_wp2
            go_roundw
            case rel => exact ⟨k + 1, by omega, by go_num, by rw [Hn.out], fun _ => HB2.out, below_step (below_drewN Hb3.out 1) Hb4.out⟩
            case measure => simp [intOf]; omega
        · obtain ⟨j, hj⟩ : ∃ j : Nat, fitN L d k = (j : Int) := ⟨(fitN L d k).toNat, by omega⟩
          have hjk : j < k := by omega
          rw [hj, Int.toNat_natCast] at hyes hno
          have hj0 := hcj j hjk
          have hbj : w3.drew.cell? ⟨b, off + j * 2, none⟩ = some (.int .i64 (sprAt L j).m) := hj0
          have g2 : (j : Int) < (L.length : Int) := by omega
          have g3 : ¬ (j : Int) < 0 := by omega
          have hd0 : decide ((j : Int) < 0) = false := decide_eq_false g3
          rw [hj]
          obtain ⟨t, ht⟩ : ∃ t, sprAt L j = t := ⟨_, rfl⟩
          rw [ht] at hyes hno hj0
          have pk1 := And.intro pk1.1 (And.intro pk1.2.1 (And.intro pk1.2.2.1 (And.intro pk1.2.2.2 hj0)))
          replace Hpk := Lib.hid (fun (W : World) (h : Below w3.drew.heap.size w3.drew W) => And.intro (Hpk.out W h).1 (And.intro (Hpk.out W h).2.1 (And.intro (Hpk.out W h).2.2.1 (And.intro (Hpk.out W h).2.2.2 (below_cell (x := ⟨b, off + j * 2, none⟩) h hbw hj0)))))
          by_cases hm : s.m < t.m
          · have Hn := Lib.hid (hyes e2 (.inr hm))
            clear e2 hyes hno hcj hj hq0 hbd ht hbj hj0
            go_wp2
            go_region_held3 (fun w9 => w9.cell? ⟨b, off + k * 2, none⟩ = some (.int .i64 s.m) ∧ w9.cell? ⟨b, off + k * 2 + 1, none⟩ = some (.int .i64 s.k) ∧ w9.cell? ⟨w.heap.size, 0, none⟩ = some (.int .i64 d.m) ∧ w9.cell? ⟨w.heap.size, 1, none⟩ = some (.int .i64 d.k) ∧ w9.cell? ⟨b, off + j * 2, none⟩ = some (.int .i64 t.m)) (first | exact pk2 | exact pk1)
              (first
              | (go_at_call 61; refine (l4Serves_c s d _).mono ?_; rintro e w4 ⟨rfl, hb4⟩; rw [E2.out]; have pk2 := Hpk.out _ hb4; have Hb4 := Lib.hid hb4; clear hb4)
              | fail)
            all_goals
              go_wp2
              go_roundw
              case rel => exact ⟨k + 1, by omega, by go_num, by rw [Hn.out], fun _ => HB2.out, below_step (below_drewN Hb3.out 1) Hb4.out⟩
              case measure => simp [intOf]; omega
          · have Hn := Lib.hid (hno (fun h => h.2.elim g3 hm))
            clear e2 hyes hno hcj hj hq0 hbd ht hbj hj0
            go_wp2
            go_region_held3 (fun w9 => w9.cell? ⟨b, off + k * 2, none⟩ = some (.int .i64 s.m) ∧ w9.cell? ⟨b, off + k * 2 + 1, none⟩ = some (.int .i64 s.k) ∧ w9.cell? ⟨w.heap.size, 0, none⟩ = some (.int .i64 d.m) ∧ w9.cell? ⟨w.heap.size, 1, none⟩ = some (.int .i64 d.k) ∧ w9.cell? ⟨b, off + j * 2, none⟩ = some (.int .i64 t.m)) (first | exact pk2 | exact pk1)
              (first
              | (go_at_call 61; refine (l4Serves_c s d _).mono ?_; rintro e w4 ⟨rfl, hb4⟩; rw [E2.out]; have pk2 := Hpk.out _ hb4; have Hb4 := Lib.hid hb4; clear hb4)
              | fail)
            all_goals
              go_wp2
              go_roundw
              case rel => exact ⟨k + 1, by omega, by go_num, by rw [Hn.out], fun _ => HB2.out, below_step (below_drewN Hb3.out 1) Hb4.out⟩
              case measure => simp [intOf]; omega
    · obtain rfl : k = L.length := by omega
      have hbd := fitN_bd L d L.length
      by_cases hq0 : fitN L d L.length < 0
      · have hs : serveB L [d] = false := by
          rcases Nat.eq_zero_or_pos L.length with h | h
          · have h1 : L = [] := List.eq_nil_of_length_eq_zero h
            subst h1
            cases hB : bothB ([] : List Spr) [d] with
            | false => unfold serveB serveG; rw [hB]; rfl
            | true => exact ((fit_all hB).1 hq0).1
          · exact ((fit_all (HB.out h)).1 hq0).1
        have Hs := Lib.hid hs
        clear hs
        obtain ⟨q, hq⟩ : ∃ q, fitN L d L.length = q := ⟨_, rfl⟩
        rw [hq] at hq0 hbd ⊢
        clear hq
        go_wp2
        go_ret2
        exact ⟨by rw [fit_no Hs.out, Hs.out]; rfl, below_step Hb0.out Hb.out⟩
      · have hpos : 0 < L.length := by omega
        have Hs := Lib.hid ((fit_all (HB.out hpos)).2 hq0)
        obtain ⟨q, hq⟩ : ∃ q, fitN L d L.length = q := ⟨_, rfl⟩
        rw [hq] at hq0 hbd Hs ⊢
        clear hq
        go_wp2
        go_ret2
        exact ⟨by rw [Hs.out.1, Hs.out.2]; rfl, below_step Hb0.out Hb.out⟩

end Go.Proofs.Ytkicifkigbciaaa
