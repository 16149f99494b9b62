/-
  RouteClear of the program.
-/
import Derived.Test.YtjboamhjfncgdaaRtE
import Derived.Test.YtjboamhjfncgdaaRtC
import Derived.Test.YtjboamhjfncgdaaDelK
namespace Go.Proofs.Ytjboamhjfncgdaa
open Go.RowKit

/-- none of the first k is crossed -/
def nocrTo (s : Rot) (H : List Rot) (k : Nat) : Prop := (H.take k).any (fun r => crB s r) = false
theorem nocrTo_zero (s : Rot) (H : List Rot) : nocrTo s H 0 := by simp [nocrTo]
theorem nocrTo_succ {s : Rot} {H : List Rot} {k : Nat} (h : nocrTo s H k) (hk : k < H.length) (hp : crB s (rotAt H k) = false) : nocrTo s H (k + 1) := by
  rw [rotAt_lt hk] at hp
  unfold nocrTo at *
  rw [List.take_succ_eq_append_getElem hk, List.any_append, h]; simp [hp]
theorem nocrTo_yes {s : Rot} {H : List Rot} {k : Nat} (hk : k < H.length) (hp : crB s (rotAt H k) = true) : H.any (fun r => crB s r) = true := by
  rw [rotAt_lt hk] at hp
  exact List.any_eq_true.2 ⟨_, List.getElem_mem hk, hp⟩
theorem nocrTo_all {s : Rot} {H : List Rot} (h : nocrTo s H H.length) : H.any (fun r => crB s r) = false := by
  unfold nocrTo at h; rwa [List.take_length] at h

set_option maxRecDepth 100000 in
set_option maxHeartbeats 2000000 in
theorem indexFuncK_c (s : Rot) (A : Option Addr) (c : Nat) (H : List Rot) (w : World) (ha : ArgK w A c H) (hs : RtIn s) (hH : ∀ k, k < H.length → RtIn (rotAt H k)) :
    Calls Try.prog 105 #[.slice A H.length c, .func (.func 92) #[s.v] #[]] w
      fun e w' => ∃ i : Int, e = .returned (.int .i64 i) ∧ decide (0 ≤ i) = H.any (fun r => crB s r) ∧ Below w.heap.size w w' := by
  have hl := ha.len
  have HA := Lib.hid ha
  have HC := Lib.hid (fun (k : Nat) (hk : k < H.length) W => crosses_c s (rotAt H k) W hs (hH k hk))
  clear ha hs hH
  unfold Rot.v at HC ⊢
  go_enter Try.func105, Try.ntmps105
  go_wp2
  go_loopw [8] (fun i wr => ∃ k : Nat, k ≤ H.length ∧ i = .int .i64 k ∧ nocrTo s H k ∧ Below w.heap.size w wr) (fun i _ => H.length - (intOf i).toNat)
  case atStart => exact ⟨0, Nat.zero_le _, rfl, nocrTo_zero _ _, Below.refl _ _⟩
  case round =>
    obtain ⟨k, hk, rfl, ho, hb⟩ := hrel
    have Ho := Lib.hid ho
    have Hb := Lib.hid hb
    clear ho hb
    by_cases hlt : k < H.length
    · obtain ⟨b, off, rfl, _, _, hc0, hc1, hc2, hc3⟩ := (HA.out.go Hb.out).rd.at_ hlt
      have hy := fun h => nocrTo_yes (s := s) hlt h
      have hn := fun h => nocrTo_succ (s := s) Ho.out hlt h
      have HCk := Lib.hid (HC.out k hlt)
      obtain ⟨t, ht⟩ : ∃ t, rotAt H k = t := ⟨_, rfl⟩
      rw [ht] at hc0 hc1 hc2 hc3 hy hn HCk
      have Hy := Lib.hid hy
      have Hn := Lib.hid hn
      have g1 : (k : Int) < (H.length : Int) := by omega
      clear ht hy hn
      go_wp2_with fail
      refine (HCk.out _).mono ?_
      rintro e w2 ⟨rfl, hb2⟩
      have Hb2 := Lib.hid (below_step Hb.out hb2)
      clear hb2
      cases hc : crB s t
      · have hz := Hn.out hc
        clear hc
        go_wp2
        go_roundw
        case rel => exact ⟨k + 1, by omega, by go_num, hz, Hb2.out⟩
        case measure => simp [intOf]; omega
      · have hz := Lib.hid (Hy.out hc)
        clear hc
        go_wp2
        go_ret
        exact ⟨(k : Int), rfl, by rw [hz.out]; exact decide_eq_true (by omega), Hb2.out⟩
    · obtain rfl : k = H.length := by omega
      have hz := Lib.hid (nocrTo_all Ho.out)
      go_wp2
      go_ret
      exact ⟨-1, rfl, by rw [hz.out]; rfl, Hb.out⟩
theorem containsFuncK_c (s : Rot) (A : Option Addr) (c : Nat) (H : List Rot) (w : World) (ha : ArgK w A c H) (hs : RtIn s) (hH : ∀ k, k < H.length → RtIn (rotAt H k)) :
    Calls Try.prog 94 #[.slice A H.length c, .func (.func 92) #[s.v] #[]] w (RetB (.bool (H.any fun r => crB s r)) w) := by
  have HI := Lib.hid (indexFuncK_c s A c H w ha hs hH)
  clear ha hs hH
  unfold Rot.v at HI ⊢
  go_enter Try.func94, Try.ntmps94
  go_wp2_with fail
  refine HI.out.mono ?_
  rintro e w1 ⟨i, rfl, hi, hb⟩
  have Hi := Lib.hid hi
  have Hb := Lib.hid hb
  clear hi hb
  go_wp2
  go_ret
  exact ⟨by rw [← Hi.out]; rfl, Hb.out⟩

def heapR (R : List Rot) (k m : Nat) : List Rot := (heapTo R k m).map (rotAt R)
theorem heapR_len (R : List Rot) (k m : Nat) : (heapR R k m).length = (heapTo R k m).length := by simp [heapR]
theorem heapR_any (R : List Rot) (k m : Nat) : (heapR R k m).any (fun r => crB (rotAt R (k + 1 + m)) r) = (heapTo R k m).any (fun h => crI R (k + 1 + m) h) := by unfold heapR; rw [List.any_map]; rfl
theorem heapR_yes {R : List Rot} {k m : Nat} (h : (heapR R k m).any (fun r => crB (rotAt R (k + 1 + m)) r) = true) : heapR R k (m + 1) = heapR R k m ++ [rotAt R (k + 1 + m)] := by
  rw [heapR_any] at h; unfold heapR; rw [heapTo_yes h, List.map_append]; rfl
theorem heapR_no {R : List Rot} {k m : Nat} (h : (heapR R k m).any (fun r => crB (rotAt R (k + 1 + m)) r) = false) : heapR R k (m + 1) = heapR R k m := by
  rw [heapR_any] at h; unfold heapR; rw [heapTo_no h]
theorem heapR_in {R : List Rot} (h : chartB R = true) {k m : Nat} (hk : k < R.length) (hm : k + 1 + m ≤ R.length) : ∀ j, j < (heapR R k m).length → RtIn (rotAt (heapR R k m) j) := fun j hj => by
  rw [rotAt_lt hj]
  have hj2 : j < (heapTo R k m).length := by rwa [heapR_len] at hj
  have e : (heapR R k m)[j] = rotAt R ((heapTo R k m)[j]) := by simp [heapR]
  rw [e]
  have := ((heap_mem hk m hm _).1 (List.getElem_mem hj2)).2
  exact chart_in h (by omega)
theorem rotAt_drop (R : List Rot) (k m : Nat) : rotAt (R.drop k) m = rotAt R (k + m) := by unfold rotAt; rw [List.getElem?_drop]
theorem ownK_one (w : World) (s : Rot) (t : TypeId) : (w.alloc (.cells #[.int .i64 s.a, .int .i64 s.b, .int .i64 s.c, .int .i64 s.d] t)).ownsRow w.heap.size t 4 (.slice (some ⟨w.heap.size, 0, none⟩) 1 1) [s].length (rotCells [s]) :=
  ⟨by simp [rotCells_length], .inr ⟨w.heap.size, 1, #[.int .i64 s.a, .int .i64 s.b, .int .i64 s.c, .int .i64 s.d], rfl, Nat.le_refl _, heap_alloc_new w _, by simp, by simp [maxLen], by simp, by simp [rotCells, rotCell]⟩⟩

set_option maxRecDepth 100000 in
set_option maxHeartbeats 4000000 in
theorem implRouteClear_b (A : Option Addr) (c : Nat) (ss : List Rot) (kk : Int) (w : World) (ha : ArgK w A c ss) :
    Calls Try.prog 50 #[.slice A ss.length c, .int .i64 kk] w (RetB (.int .i64 (clrV ss kk)) w) := by
  obtain ⟨i0, hi, hz0, hz1, hz2⟩ := info_parts rotInf
  have hcc := ha.2.1
  have hcm := ha.2.2.1
  have HA := Lib.hid ha
  clear ha
  go_enter Try.func50, Try.ntmps50
  go_wp2_with fail
  refine (hasRoute_c _ _ _ _ _ HA.out).mono ?_
  rintro e w1 ⟨rfl, hb⟩
  have Hb := Lib.hid hb
  clear hb
  cases e1 : hasR ss kk
  · have Hv := Lib.hid (clrV_no e1)
    clear e1
    go_wp2
    go_ret
    exact ⟨by rw [Hv.out] <;> rfl, Hb.out⟩
  obtain ⟨k1, k2, k3⟩ := hasR_true.1 e1
  obtain ⟨k, rfl⟩ : ∃ k : Nat, kk = (k : Int) := ⟨kk.toNat, by omega⟩
  have hlt : k < ss.length := by omega
  have h8 := chart_len k1
  have Hv := Lib.hid (clrV_yes e1)
  have Hch := Lib.hid k1
  obtain ⟨b, off, rfl, hat⟩ := argK_at HA.out hlt
  obtain ⟨c0, c1, c2, c3⟩ := hat _ Hb.out
  have HD := Lib.hid (HA.out.drop (k + 1))
  have hdl : (ss.drop (k + 1)).length = ss.length - (k + 1) := by simp
  obtain ⟨s0, hs0⟩ : ∃ s, rotAt ss k = s := ⟨_, rfl⟩
  have Hs0 := Lib.hid (show heapR ss k 0 = [s0] by rw [← hs0]; rfl)
  rw [hs0] at c0 c1 c2 c3
  have HO := Lib.hid (show OnK w (w1.alloc (.cells #[.int .i64 s0.a, .int .i64 s0.b, .int .i64 s0.c, .int .i64 s0.d] 37)) (.slice (some ⟨w1.heap.size, 0, none⟩) 1 1) (heapR ss k 0) by rw [Hs0.out]; exact ⟨OwnsRow.more (ownK_one w1 s0 _) Hb.out.size, Hb.out.alloc Hb.out.size _⟩)
  have q1 : IntKind.i64.wrap ((k : Int) + 1) = (k : Int) + 1 := IntWalk.i64_in _ (by omega)
  have g1 : (k : Int) < (ss.length : Int) := by omega
  have g2 : (0 : Int) ≤ (k : Int) + 1 := by omega
  have g3 : (k : Int) + 1 ≤ (ss.length : Int) := by omega
  have g4 : (k : Int) + 1 ≤ (c : Int) := by omega
  have g5 : k + 1 ≤ c := by omega
  have g6 : ((k : Int) + 1).toNat = k + 1 := by omega
  have Hclr := Lib.hid (show ∀ m, m = ss.length - (k + 1) → ((heapR ss k m).length : Int) - 1 = (clrN ss k : Int) from fun m hm => by
    have := (heap_len ss k m).1
    rw [heapR_len]; unfold clrN; rw [← hm]; omega)
  have hlen := fun m => heapR_len ss k m
  have Hlen := Lib.hid (fun m (hm : k + 1 + m ≤ ss.length) => show (heapR ss k m).length ≤ 9 by rw [hlen m]; have := (heap_len ss k m).2; omega)
  have Hlen1 := Lib.hid (fun m => show 1 ≤ (heapR ss k m).length by rw [hlen m]; exact (heap_len ss k m).1)
  have Hin := Lib.hid (fun m (hm : k + 1 + m ≤ ss.length) => heapR_in k1 hlt hm)
  clear e1 k1 k2 k3 hat hs0 hlen hdl
  by_cases hck : c = k + 1
  · subst hck
    have hn0 : ss.length - (k + 1) = 0 := by omega
    have g7 : ¬ (0 : Int) < ((ss.length - (k + 1) : Nat) : Int) := by omega
    have Hl1 := Lib.hid (Hlen1.out 0)
    have Hl9 := Lib.hid (Hlen.out 0 (by omega))
    have Hend := Lib.hid (Hclr.out 0 (by omega))
    have Hh1 := Lib.hid (show (heapR ss k 0).length = 1 by rw [Hs0.out]; rfl)
    clear hn0
    go_wp2
    go_loopw [5, 22] (fun o i wr => o = .slice (some ⟨w1.heap.size, 0, none⟩) 1 1 ∧ i = .int .i64 0 ∧ Below w.heap.size w wr) (fun _ _ _ => 0)
    case atStart => exact ⟨rfl, rfl, HO.out.2⟩
    case round =>
      obtain ⟨rfl, rfl, hb⟩ := hrel
      have Hb5 := Lib.hid hb
      clear hb
      go_wp2
      go_ret
      exact ⟨by rw [Hv.out, ← Hend.out, Hh1.out]; rfl, Hb5.out⟩
  have g8 : ¬ c = k + 1 := hck
  obtain ⟨N, hN⟩ : ∃ N, ss.length - (k + 1) = N := ⟨_, rfl⟩
  have hNk : k + 1 + N = ss.length := by omega
  go_wp2
  try rw [hN]
  have HN := Lib.hid hN
  clear hN
  go_loopw [5, 22] (fun o i wr => ∃ (m : Nat) (v : Value), m ≤ N ∧ v = o ∧ i = .int .i64 m ∧ OnK w wr v (heapR ss k m)) (fun _ i _ => N - (intOf i).toNat)
  case atStart => exact ⟨0, _, Nat.zero_le _, rfl, rfl, HO.out⟩
  case round =>
    obtain ⟨m, v, hm, rfl, rfl, ho⟩ := hrel
    have how : OwK 37 w.heap.size wr.heap.size wr v (heapR ss k m) := OwK.of_own ho.1
    have hl9 := Hlen.out m (by omega)
    obtain ⟨B, d, rfl, _, _, _⟩ := how.form
    have hab := how.arg (by omega) (Nat.le_refl _)
    have Ho := Lib.hid ho
    have Hab := Lib.hid hab
    clear ho how hab
    by_cases hlt2 : m < N
    · have g9 : (m : Int) < (N : Int) := by omega
      obtain ⟨b2, off2, eb, _, _, hc0, hc1, hc2, hc3⟩ := (HD.out.go Ho.out.2).rd.at_ (k := m) (by simp; omega)
      injection eb with eb
      injection eb with eb eo _
      subst eb
      subst eo
      rw [rotAt_drop] at hc0 hc1 hc2 hc3
      have hy := heapR_yes (R := ss) (k := k) (m := m)
      have hn := heapR_no (R := ss) (k := k) (m := m)
      have hin := Hin.out m (by omega)
      have hrs := chart_in Hch.out (show k + 1 + m < ss.length by omega)
      have hl9' := Hlen.out (m + 1) (by omega)
      obtain ⟨s, hs⟩ : ∃ s, rotAt ss (k + 1 + m) = s := ⟨_, rfl⟩
      obtain ⟨H, hH⟩ : ∃ H, heapR ss k m = H := ⟨_, rfl⟩
      obtain ⟨H2, hH2⟩ : ∃ H2, heapR ss k (m + 1) = H2 := ⟨_, rfl⟩
      rw [hs] at hc0 hc1 hc2 hc3 hy hn hrs
      rw [hH] at hy hn hin Ho Hab hl9
      rw [hH2] at hy hn hl9'
      simp only [hH]
      have HH2 := Lib.hid hH2
      have Hy := Lib.hid hy
      have Hn := Lib.hid hn
      have HCF := Lib.hid (fun W ha => containsFuncK_c s B d H W ha hrs hin)
      clear hs hH hH2 hy hn hin hrs
      unfold Rot.v at HCF
      go_wp2_with fail
      refine (HCF.out _ (Hab.out.go ((Below.refl _ _).alloc (Nat.le_refl _) _))).mono ?_
      rintro e w4 ⟨rfl, hb4⟩
      have Ho4 := Lib.hid ((Ho.out.alloc (.cells #[.int .i64 s.a, .int .i64 s.b, .int .i64 s.c, .int .i64 s.d] 37)).go hb4)
      have hbx : ∀ j, w4.cell? ⟨wr.heap.size, j, none⟩ = (#[Value.int .i64 s.a, .int .i64 s.b, .int .i64 s.c, .int .i64 s.d] : Array Value)[j]? := fun j => (hb4.cell (p := ⟨wr.heap.size, j, none⟩) (by simp)).trans (cell_of_row _ _ j _ _ _ (heap_alloc_new wr _))
      have x0 : w4.cell? ⟨wr.heap.size, 0, none⟩ = some (.int .i64 s.a) := hbx 0
      have x1 : w4.cell? ⟨wr.heap.size, 1, none⟩ = some (.int .i64 s.b) := hbx 1
      have x2 : w4.cell? ⟨wr.heap.size, 2, none⟩ = some (.int .i64 s.c) := hbx 2
      have x3 : w4.cell? ⟨wr.heap.size, 3, none⟩ = some (.int .i64 s.d) := hbx 3
      clear hb4 hbx hc0 hc1 hc2 hc3 Hab
      cases hc : H.any fun r => crB s r
      · have hz := Hn.out hc
        clear hc
        go_wp2
        go_roundw
        case rel => exact ⟨m + 1, .slice B H.length d, by omega, rfl, by go_num, by rw [HH2.out, hz]; exact Ho4.out⟩
        case measure => simp [intOf]; omega
      · have hz := Hy.out hc
        clear hc
        go_wp2_with (at_builtin; refine wpList_append_rots rfl (.tmp 30) (.tmp 32) 23 rfl w.heap.size 37 i0 (.agg #[.int .i64 0, .int .i64 0, .int .i64 0, .int .i64 0]) Try.underlying23 hi hz0 hz1 hz2 rfl (.slice B H.length d) H rfl (Ho4.out.alloc _).1 (some ⟨w4.heap.size, 0, none⟩) 1 [s] rfl (argK_one w4 s _) (by simp only [List.length_singleton]; omega) (by have := Ho4.out.2.size; simp; omega) ?_; intro v' w9 hown9 hg9; have H9 := Lib.hid (Ho4.out.grown hown9 hg9); clear hown9 hg9)
        go_roundw
        case rel => exact ⟨m + 1, v', by omega, rfl, by go_num, by rw [HH2.out, hz]; exact H9.out⟩
        case measure => simp [intOf]; omega
    · obtain rfl : m = N := by omega
      have hend := Hclr.out m (by have := HN.out; omega)
      have Hend := Lib.hid hend
      have hl1 := Hlen1.out m
      obtain ⟨X, hX⟩ : ∃ X, (heapR ss k m).length = X := ⟨_, rfl⟩
      rw [hX] at Hend hl9 hl1 ⊢
      have q9 : IntKind.i64.wrap ((X : Int) - 1) = (X : Int) - 1 := IntWalk.i64_in _ (by omega)
      clear hend hX
      go_wp2
      go_ret
      exact ⟨by rw [Hv.out, ← Hend.out]; rfl, Ho.out.2⟩

end Go.Proofs.Ytjboamhjfncgdaa
