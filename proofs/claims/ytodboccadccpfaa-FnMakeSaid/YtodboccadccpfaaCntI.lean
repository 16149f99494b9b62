/-
  StowageTanks and StowageMost of the program.
-/
import Derived.Test.YtodboccadccpfaaOutI
namespace Go.Proofs.Ytodboccadccpfaa
open Go.RowKit

/-- as many of the first k coils in each tank -/
def cnts (T : List Int) (k : Nat) : List Int := (List.range 5).map fun (t : Nat) => (cnt T t k : Int)
theorem cnts_len (T : List Int) (k : Nat) : (cnts T k).length = 5 := by simp [cnts]
theorem cnts_at (T : List Int) (k : Nat) {t : Nat} (ht : t < 5) : (cnts T k)[t]?.getD 0 = cnt T t k := by
  unfold cnts
  rw [List.getElem?_map, List.getElem?_range ht]
  rfl
theorem cnts_succ (T : List Int) (k : Nat) {t : Nat} (ht : t < 5) (e : T[k]?.getD 0 = t) : cnts T (k + 1) = (cnts T k).set t ((cnt T t k : Int) + 1) := by
  apply List.ext_getElem?
  intro j
  rcases Nat.lt_or_ge j 5 with hj | hj
  · rw [List.getElem?_set, cnts_len]
    by_cases h : t = j
    · subst h
      rw [if_pos rfl, if_pos ht]
      unfold cnts
      rw [List.getElem?_map, List.getElem?_range ht]
      simp [cnt, e]
    · rw [if_neg h]
      unfold cnts
      rw [List.getElem?_map, List.getElem?_map, List.getElem?_range hj]
      have : ¬ T[k]?.getD 0 = (j : Int) := by rw [e]; omega
      simp [cnt, this]
  · rw [List.getElem?_eq_none (by rw [cnts_len]; exact hj), List.getElem?_eq_none (by rw [List.length_set, cnts_len]; exact hj)]

theorem cnts_zero (T : List Int) : (cnts T 0).map (Value.int .i64) = [.int .i64 0, .int .i64 0, .int .i64 0, .int .i64 0, .int .i64 0] := rfl
theorem made5 {W : World} {t : TypeId} {g : Nat} (h : W.heap[g]? = some (.cells #[.int .i64 0, .int .i64 0, .int .i64 0, .int .i64 0, .int .i64 0] t (0, 0))) (T : List Int) {lo : Nat} (hl : lo ≤ g) : W.ownsRow lo t 1 (.slice (some ⟨g, 0, none⟩) 5 5) 5 ((cnts T 0).map (Value.int .i64)) := by
  rw [cnts_zero]
  exact ⟨rfl, .inr ⟨g, 5, _, rfl, hl, h, Nat.le_refl _, by simp [maxLen], rfl, rfl⟩⟩

theorem len5 {xs : List Value} {a b c d e : Value} (h : xs.length = 5) : ((((xs.set 0 a).set 1 b).set 2 c).set 3 d).set 4 e = [a, b, c, d, e] := by
  rcases xs with _ | ⟨x0, _ | ⟨x1, _ | ⟨x2, _ | ⟨x3, _ | ⟨x4, _ | ⟨x5, r⟩⟩⟩⟩⟩⟩ <;> simp at h ⊢
theorem set5 {W : World} {t : TypeId} {g lo : Nat} {xs : List Value} (h : W.ownsRow lo t 1 (.slice (some ⟨g, 0, none⟩) 5 5) 5 xs) (a b c d e : Value) :
    (((((W.setCell ⟨g, 0, none⟩ a).setCell ⟨g, 1, none⟩ b).setCell ⟨g, 2, none⟩ c).setCell ⟨g, 3, none⟩ d).setCell ⟨g, 4, none⟩ e).heap[g]? = some (.cells #[a, b, c, d, e] t (0, 0)) := by
  have h5 := ((((((h.stored 0 a).1.stored 1 b).1.stored 2 c).1.stored 3 d).1.stored 4 e).1)
  rw [len5 (by have := h.1; omega)] at h5
  rcases h5.2 with ⟨e1, _⟩ | ⟨g2, cap, cur, e1, _, hg, _, _, hs, ht⟩
  · exact absurd e1 (by simp)
  · simp only [Value.slice.injEq, Option.some.injEq, Addr.mk.injEq, and_true, true_and] at e1
    obtain ⟨e1, e3⟩ := e1
    subst e1; subst e3
    rw [hg]
    have hcs : cur.toList = [a, b, c, d, e] := by
      rw [List.take_of_length_le (by simp; omega)] at ht
      exact ht
    have : cur = #[a, b, c, d, e] := Array.toList_inj.1 hcs
    rw [this]

set_option maxRecDepth 100000 in
set_option maxHeartbeats 2000000 in
theorem coilsPerTank_b (A1 : Option Addr) (c1 : Nat) (z1 : List Int) (w : World) (h1 : Arg w A1 c1 z1) (hin : ∀ j, j < z1.length → 0 ≤ z1[j]?.getD 0 ∧ z1[j]?.getD 0 ≤ 4) :
    Calls Try.prog 100 #[.slice A1 z1.length c1] w (RetB (.agg #[.int .i64 (cnt z1 0 z1.length), .int .i64 (cnt z1 1 z1.length), .int .i64 (cnt z1 2 z1.length), .int .i64 (cnt z1 3 z1.length), .int .i64 (cnt z1 4 z1.length)]) w) := by
  have hl1 := h1.len
  have H1 := Lib.hid h1
  have Hin := Lib.hid hin
  clear h1 hin
  go_enter Try.func100, Try.ntmps100
  go_wp2
  obtain ⟨W1, hW1⟩ : ∃ W1, (w.alloc (.cells #[.int .i64 0, .int .i64 0, .int .i64 0, .int .i64 0, .int .i64 0] 121)).alloc (.cells #[.int .i64 0, .int .i64 0, .int .i64 0, .int .i64 0, .int .i64 0] 121) = W1 := ⟨_, rfl⟩
  have hO : W1.ownsRow (w.heap.size + 1) 121 1 (.slice (some ⟨w.heap.size + 1, 0, none⟩) 5 5) 5 ((cnts z1 0).map (Value.int .i64)) := by
    rw [← hW1]
    refine made5 ?_ z1 (Nat.le_refl _)
    have := heap_alloc_new (w.alloc (.cells #[.int .i64 0, .int .i64 0, .int .i64 0, .int .i64 0, .int .i64 0] 121)) (.cells #[.int .i64 0, .int .i64 0, .int .i64 0, .int .i64 0, .int .i64 0] 121)
    rw [World.size_alloc] at this
    exact this
  have hR : W1.ownsRow w.heap.size 121 1 (.slice (some ⟨w.heap.size, 0, none⟩) 5 5) 5 ((cnts z1 0).map (Value.int .i64)) := by
    rw [← hW1]
    exact made5 ((heap_alloc_old _ (.cells #[.int .i64 0, .int .i64 0, .int .i64 0, .int .i64 0, .int .i64 0] 121) (by simp)).trans (heap_alloc_new w _)) z1 (Nat.le_refl _)
  have hB : Below w.heap.size w W1 := by rw [← hW1]; exact ((Below.refl _ _).alloc (Nat.le_refl _) _).alloc (by simp) _
  rw [hW1]
  have HO := Lib.hid hO
  have HR := Lib.hid hR
  have HB := Lib.hid hB
  clear hW1 hO hR hB
  go_loopw [8] (fun i wr => ∃ k : Nat, k ≤ z1.length ∧ i = .int .i64 k ∧ wr.ownsRow (w.heap.size + 1) 121 1 (.slice (some ⟨w.heap.size + 1, 0, none⟩) 5 5) 5 ((cnts z1 k).map (Value.int .i64)) ∧ wr.ownsRow w.heap.size 121 1 (.slice (some ⟨w.heap.size, 0, none⟩) 5 5) 5 ((cnts z1 0).map (Value.int .i64)) ∧ Below w.heap.size w wr) (fun i _ => z1.length - (intOf i).toNat)
  case atStart => exact ⟨0, Nat.zero_le _, rfl, HO.out, HR.out, HB.out⟩
  case round =>
    obtain ⟨k, hk, rfl, ho, hr, hb⟩ := hrel
    have HOk := Lib.hid ho
    have HRk := Lib.hid hr
    have Hb := Lib.hid hb
    by_cases hlt : k < z1.length
    · obtain ⟨b, off, rfl, _, hbw, hc0⟩ := (H1.out.go hb).rd.at_ hlt
      have hi := Hin.out k hlt
      have hs := fun t => cnts_succ z1 k (t := t)
      obtain ⟨y, hy⟩ : ∃ y, z1[k]?.getD 0 = y := ⟨_, rfl⟩
      rw [hy] at hc0 hi
      rw [hy] at hs
      obtain ⟨t, rfl⟩ := Int.eq_ofNat_of_zero_le hi.1
      have ht : t < 5 := by omega
      have hs2 := hs t ht rfl
      have hck := ho.cellAt t (by omega)
      have hfk := ho.frozenAt t
      have hat := cnts_at z1 k ht
      have hle := cnt_leK z1 t k
      rw [List.getElem?_map, List.getElem?_eq_getElem (by rw [cnts_len]; exact ht)] at hck
      rw [List.getElem?_eq_getElem (by rw [cnts_len]; exact ht)] at hat
      simp only [Option.map_some] at hck
      rw [show (cnts z1 k)[t] = (cnt z1 t k : Int) from hat] at hck
      obtain ⟨u, hu⟩ : ∃ u, cnt z1 t k = u := ⟨_, rfl⟩
      rw [hu] at hck hs2 hle
      have hst := ho.stored t (.int .i64 ((u : Int) + 1))
      rw [← List.map_set, ← hs2] at hst
      have Hst := Lib.hid hst
      have g1 : (k : Int) < (z1.length : Int) := by omega
      have g2 : (t : Int) < 5 := by omega
      have g3 : (0 : Int) ≤ (t : Int) := by omega
      have HRs := Lib.hid (hr.kept hst.2 (.inr (by simp [Value.ownBlock])))
      clear ho hr hb hi hs hs2 hat hst hy hu
      go_wp2
      go_roundw
      case rel => exact ⟨k + 1, by omega, by go_num, Hst.out.1, HRs.out, Hb.out.setCell (p := ⟨w.heap.size + 1, t, none⟩) (Nat.le_succ _) _⟩
      case measure => simp [intOf]; omega
    · obtain rfl : k = z1.length := by omega
      have hc : ∀ j, j < 5 → wr.cell? ⟨w.heap.size + 1, j, none⟩ = some (.int .i64 (cnt z1 j z1.length)) := fun j hj => by
        have := ho.cellAt j (by omega)
        rw [List.getElem?_map, List.getElem?_eq_getElem (by rw [cnts_len]; exact hj)] at this
        have h2 := cnts_at z1 z1.length hj
        rw [List.getElem?_eq_getElem (by rw [cnts_len]; exact hj)] at h2
        rw [this]
        simp only [Option.map_some]
        rw [show (cnts z1 z1.length)[j] = (cnt z1 j z1.length : Int) from h2]
      have d0 := hc 0 (by omega)
      have d1 := hc 1 (by omega)
      have d2 := hc 2 (by omega)
      have d3 := hc 3 (by omega)
      have d4 := hc 4 (by omega)
      have e0 : wr.cell? ⟨w.heap.size, 0, none⟩ = some (.int .i64 0) := hr.cellAt 0 (by omega)
      have e1 : wr.cell? ⟨w.heap.size, 1, none⟩ = some (.int .i64 0) := hr.cellAt 1 (by omega)
      have e2 : wr.cell? ⟨w.heap.size, 2, none⟩ = some (.int .i64 0) := hr.cellAt 2 (by omega)
      have e3 : wr.cell? ⟨w.heap.size, 3, none⟩ = some (.int .i64 0) := hr.cellAt 3 (by omega)
      have e4 : wr.cell? ⟨w.heap.size, 4, none⟩ = some (.int .i64 0) := hr.cellAt 4 (by omega)
      have f0 := hr.frozenAt 0
      have f1 := hr.frozenAt 1
      have f2 := hr.frozenAt 2
      have f3 := hr.frozenAt 3
      have f4 := hr.frozenAt 4
      have r5 := set5 hr (.int .i64 (cnt z1 0 z1.length)) (.int .i64 (cnt z1 1 z1.length)) (.int .i64 (cnt z1 2 z1.length)) (.int .i64 (cnt z1 3 z1.length)) (.int .i64 (cnt z1 4 z1.length))
      have R5 := Lib.hid r5
      clear ho hr hb hc r5
      go_wp2
      refine bodyPost_ret (results_cell_row rfl _ _ w.heap.size 121 _ (0, 0) _ rfl R5.out Try.underlying121 rfl (by kernel_rfl)) rfl ?_
      exact ⟨rfl, ((((Hb.out.setCell (p := ⟨w.heap.size, 0, none⟩) (Nat.le_refl _) _).setCell (p := ⟨w.heap.size, 1, none⟩) (Nat.le_refl _) _).setCell (p := ⟨w.heap.size, 2, none⟩) (Nat.le_refl _) _).setCell (p := ⟨w.heap.size, 3, none⟩) (Nat.le_refl _) _).setCell (p := ⟨w.heap.size, 4, none⟩) (Nat.le_refl _) _⟩

/-- the greatest of the first k numbers -/
def mxTo (zs : List Int) : Nat → Int
  | 0 => zs[0]?.getD 0
  | k + 1 => max (mxTo zs k) (zs[k]?.getD 0)

theorem tnk_no {L T : List Int} (h : stowB L T = false) : tnkI L T = -1 := by unfold tnkI; rw [h]; rfl
theorem tnk_yes {L T : List Int} (h : stowB L T = true) : tnkI L T = usedK T T.length 5 := by unfold tnkI; rw [h]; rfl
theorem mst_no {L T : List Int} (h : stowB L T = false) : mstI L T = -1 := by unfold mstI; rw [h]; rfl
theorem mst_yes {L T : List Int} (h : stowB L T = true) : mstI L T = mostK T 5 := by unfold mstI; rw [h]; rfl
theorem stow_tanks {L T : List Int} (h : stowB L T = true) : ∀ j, j < T.length → 0 ≤ T[j]?.getD 0 ∧ T[j]?.getD 0 ≤ 4 := fun j hj => stow_at h (by rw [← stow_len h]; exact hj)

set_option maxRecDepth 100000 in
set_option maxHeartbeats 2000000 in
theorem implStowageTanks_b (A0 : Option Addr) (c0 : Nat) (z0 : List Int) (A1 : Option Addr) (c1 : Nat) (z1 : List Int) (w : World) (h0 : Arg w A0 c0 z0) (h1 : Arg w A1 c1 z1) :
    Calls Try.prog 50 #[.slice A0 z0.length c0, .slice A1 z1.length c1] w (RetB (.int .i64 (tnkI z0 z1)) w) := by
  have H0 := Lib.hid h0
  have H1 := Lib.hid h1
  clear h0 h1
  go_enter Try.func50, Try.ntmps50
  go_wp2_with fail
  refine (implStowageValid_b A0 c0 z0 A1 c1 z1 _ H0.out H1.out).mono ?_
  rintro e w1 ⟨rfl, hb1⟩
  have Hb1 := Lib.hid hb1
  replace H1 := Lib.hid (H1.out.go hb1)
  clear hb1
  cases hs : stowB z0 z1
  · have Hn := Lib.hid (tnk_no hs)
    clear hs
    go_wp2
    go_ret
    exact ⟨by rw [Hn.out]; rfl, Hb1.out⟩
  have Hy := Lib.hid (tnk_yes hs)
  have Ht := Lib.hid (stow_tanks hs)
  clear hs
  go_wp2_with fail
  refine (coilsPerTank_b A1 c1 z1 _ H1.out Ht.out).mono ?_
  rintro e w2 ⟨rfl, hb2⟩
  have Hb2 := Lib.hid (below_step Hb1.out hb2)
  clear hb2
  have Hu : Hid (∀ m, usedK z1 z1.length (m + 1) = usedK z1 z1.length m + if 0 < cnt z1 m z1.length then 1 else 0) := Lib.hid fun m => rfl
  have H00 := Lib.hid (show usedK z1 z1.length 0 = 0 from rfl)
  have hle := usedK_le z1 z1.length
  obtain ⟨f, hf⟩ : ∃ f : Nat → Nat, usedK z1 z1.length = f := ⟨_, rfl⟩
  rw [hf] at Hu H00 Hy hle
  obtain ⟨a0, ha0⟩ : ∃ a, cnt z1 0 z1.length = a := ⟨_, rfl⟩
  obtain ⟨a1, ha1⟩ : ∃ a, cnt z1 1 z1.length = a := ⟨_, rfl⟩
  obtain ⟨a2, ha2⟩ : ∃ a, cnt z1 2 z1.length = a := ⟨_, rfl⟩
  obtain ⟨a3, ha3⟩ : ∃ a, cnt z1 3 z1.length = a := ⟨_, rfl⟩
  obtain ⟨a4, ha4⟩ : ∃ a, cnt z1 4 z1.length = a := ⟨_, rfl⟩
  rw [ha0, ha1, ha2, ha3, ha4]
  have Hs0 := Lib.hid (Hu.out 0)
  have Hs1 := Lib.hid (Hu.out 1)
  have Hs2 := Lib.hid (Hu.out 2)
  have Hs3 := Lib.hid (Hu.out 3)
  have Hs4 := Lib.hid (Hu.out 4)
  rw [show ((0 : Nat) : Int) = 0 from rfl, ha0] at Hs0
  rw [show ((1 : Nat) : Int) = 1 from rfl, ha1] at Hs1
  rw [show ((2 : Nat) : Int) = 2 from rfl, ha2] at Hs2
  rw [show ((3 : Nat) : Int) = 3 from rfl, ha3] at Hs3
  rw [show ((4 : Nat) : Int) = 4 from rfl, ha4] at Hs4
  clear ha0 ha1 ha2 ha3 ha4 hf Hu
  go_wp2
  go_loopw [5, 14] (fun n i wr => ∃ k : Nat, k ≤ 5 ∧ i = .int .i64 k ∧ n = .int .i64 (f k) ∧ w2 = wr) (fun _ i _ => 5 - (intOf i).toNat)
  case atStart => exact ⟨0, Nat.zero_le _, rfl, by rw [H00.out]; rfl, rfl⟩
  case round =>
    obtain ⟨k, hk, rfl, rfl, rfl⟩ := hrel
    have hfk := hle k
    by_cases hlt : k < 5
    · obtain hk0 | hk0 | hk0 | hk0 | hk0 : k = 0 ∨ k = 1 ∨ k = 2 ∨ k = 3 ∨ k = 4 := by omega
      · subst hk0
        obtain ⟨u, hu⟩ : ∃ u, f 0 = u := ⟨_, rfl⟩
        rw [hu] at Hs0 hfk ⊢
        rw [show ((0 : Nat) : Int) = 0 from rfl]
        clear hu
        have i0 : ∀ w, (Instr.index 121 (.agg #[.int .i64 a0, .int .i64 a1, .int .i64 a2, .int .i64 a3, .int .i64 a4]) (.int .i64 0)).run Try.prog w = .ok (.int .i64 a0) w := fun _ => by kernel_rfl
        by_cases hpa : 0 < a0
        · have Hs := Lib.hid (show f 1 = u + 1 by have := Hs0.out; rw [if_pos hpa] at this; exact this)
          have g4 : (0 : Int) < (a0 : Int) := by omega
          go_wp2
          go_roundw
          case rel => exact ⟨1, by omega, by go_num, by rw [Hs.out]; go_num, trivial⟩
          case measure => simp [intOf]
        · have Hs := Lib.hid (show f 1 = u by have := Hs0.out; rw [if_neg hpa] at this; exact this)
          have g4 : ((0 : Int) < (a0 : Int)) = False := eq_false (by omega)
          go_wp2
          go_roundw
          case rel => exact ⟨1, by omega, by go_num, by rw [Hs.out], trivial⟩
          case measure => simp [intOf]
      · subst hk0
        obtain ⟨u, hu⟩ : ∃ u, f 1 = u := ⟨_, rfl⟩
        rw [hu] at Hs1 hfk ⊢
        rw [show ((1 : Nat) : Int) = 1 from rfl]
        clear hu
        have i1 : ∀ w, (Instr.index 121 (.agg #[.int .i64 a0, .int .i64 a1, .int .i64 a2, .int .i64 a3, .int .i64 a4]) (.int .i64 1)).run Try.prog w = .ok (.int .i64 a1) w := fun _ => by kernel_rfl
        by_cases hpa : 0 < a1
        · have Hs := Lib.hid (show f 2 = u + 1 by have := Hs1.out; rw [if_pos hpa] at this; exact this)
          have g4 : (0 : Int) < (a1 : Int) := by omega
          go_wp2
          go_roundw
          case rel => exact ⟨2, by omega, by go_num, by rw [Hs.out]; go_num, trivial⟩
          case measure => simp [intOf]
        · have Hs := Lib.hid (show f 2 = u by have := Hs1.out; rw [if_neg hpa] at this; exact this)
          have g4 : ((0 : Int) < (a1 : Int)) = False := eq_false (by omega)
          go_wp2
          go_roundw
          case rel => exact ⟨2, by omega, by go_num, by rw [Hs.out], trivial⟩
          case measure => simp [intOf]
      · subst hk0
        obtain ⟨u, hu⟩ : ∃ u, f 2 = u := ⟨_, rfl⟩
        rw [hu] at Hs2 hfk ⊢
        rw [show ((2 : Nat) : Int) = 2 from rfl]
        clear hu
        have i2 : ∀ w, (Instr.index 121 (.agg #[.int .i64 a0, .int .i64 a1, .int .i64 a2, .int .i64 a3, .int .i64 a4]) (.int .i64 2)).run Try.prog w = .ok (.int .i64 a2) w := fun _ => by kernel_rfl
        by_cases hpa : 0 < a2
        · have Hs := Lib.hid (show f 3 = u + 1 by have := Hs2.out; rw [if_pos hpa] at this; exact this)
          have g4 : (0 : Int) < (a2 : Int) := by omega
          go_wp2
          go_roundw
          case rel => exact ⟨3, by omega, by go_num, by rw [Hs.out]; go_num, trivial⟩
          case measure => simp [intOf]
        · have Hs := Lib.hid (show f 3 = u by have := Hs2.out; rw [if_neg hpa] at this; exact this)
          have g4 : ((0 : Int) < (a2 : Int)) = False := eq_false (by omega)
          go_wp2
          go_roundw
          case rel => exact ⟨3, by omega, by go_num, by rw [Hs.out], trivial⟩
          case measure => simp [intOf]
      · subst hk0
        obtain ⟨u, hu⟩ : ∃ u, f 3 = u := ⟨_, rfl⟩
        rw [hu] at Hs3 hfk ⊢
        rw [show ((3 : Nat) : Int) = 3 from rfl]
        clear hu
        have i3 : ∀ w, (Instr.index 121 (.agg #[.int .i64 a0, .int .i64 a1, .int .i64 a2, .int .i64 a3, .int .i64 a4]) (.int .i64 3)).run Try.prog w = .ok (.int .i64 a3) w := fun _ => by kernel_rfl
        by_cases hpa : 0 < a3
        · have Hs := Lib.hid (show f 4 = u + 1 by have := Hs3.out; rw [if_pos hpa] at this; exact this)
          have g4 : (0 : Int) < (a3 : Int) := by omega
          go_wp2
          go_roundw
          case rel => exact ⟨4, by omega, by go_num, by rw [Hs.out]; go_num, trivial⟩
          case measure => simp [intOf]
        · have Hs := Lib.hid (show f 4 = u by have := Hs3.out; rw [if_neg hpa] at this; exact this)
          have g4 : ((0 : Int) < (a3 : Int)) = False := eq_false (by omega)
          go_wp2
          go_roundw
          case rel => exact ⟨4, by omega, by go_num, by rw [Hs.out], trivial⟩
          case measure => simp [intOf]
      · subst hk0
        obtain ⟨u, hu⟩ : ∃ u, f 4 = u := ⟨_, rfl⟩
        rw [hu] at Hs4 hfk ⊢
        rw [show ((4 : Nat) : Int) = 4 from rfl]
        clear hu
        have i4 : ∀ w, (Instr.index 121 (.agg #[.int .i64 a0, .int .i64 a1, .int .i64 a2, .int .i64 a3, .int .i64 a4]) (.int .i64 4)).run Try.prog w = .ok (.int .i64 a4) w := fun _ => by kernel_rfl
        by_cases hpa : 0 < a4
        · have Hs := Lib.hid (show f 5 = u + 1 by have := Hs4.out; rw [if_pos hpa] at this; exact this)
          have g4 : (0 : Int) < (a4 : Int) := by omega
          go_wp2
          go_roundw
          case rel => exact ⟨5, by omega, by go_num, by rw [Hs.out]; go_num, trivial⟩
          case measure => simp [intOf]
        · have Hs := Lib.hid (show f 5 = u by have := Hs4.out; rw [if_neg hpa] at this; exact this)
          have g4 : ((0 : Int) < (a4 : Int)) = False := eq_false (by omega)
          go_wp2
          go_roundw
          case rel => exact ⟨5, by omega, by go_num, by rw [Hs.out], trivial⟩
          case measure => simp [intOf]
    · obtain rfl : k = 5 := by omega
      go_wp2
      go_ret
      exact ⟨by rw [Hy.out]; rfl, Hb2.out⟩

theorem mx_most (T : List Int) : ∀ k, 1 ≤ k → k ≤ 5 → mxTo (cnts T T.length) k = mostK T k
  | 0, h, _ => absurd h (by omega)
  | 1, _, _ => by
    have := cnts_at T T.length (t := 0) (by omega)
    rw [mxTo, mxTo, mostK, mostK, this]
    omega
  | k + 2, _, h => by
    rw [mxTo, mostK, mx_most T (k + 1) (by omega) (by omega), cnts_at T T.length (by omega)]
    omega

end Go.Proofs.Ytodboccadccpfaa
