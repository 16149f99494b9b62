/-
  A drawn chart with an order: DrawLiftValid. (Written by a program of mine, gen9y.py.)
-/
import Derived.Test.YtjboamhjfncgdaaCtR
import Derived.Test.YtjboamhjfncgdaaRtGs
import Derived.Lib.BufferOwn
namespace Go.Proofs.Ytjboamhjfncgdaa
open Go.RowKit

/-- A DRAWN CHART AND AN ORDER -/
def RetCl (w : World) (e : Ending) (w' : World) : Prop := ∃ B d zs A c, ∃ O : List Int, e = .returned (.tuple #[.slice B (zs : List Rot).length d, .slice A O.length c]) ∧ zs.length ≤ 10 ∧ O.length ≤ 10 ∧ ArgK w' B d zs ∧ Arg w' A c O ∧ Below w.heap.size w w'
theorem own_kept_L {w w' : World} {R base : Nat} {e : TypeId} {n : Nat} {v : Value} {xs : List Value} (h : w.ownsRow base e 1 v n xs) (hg : w.grownBy w' (some R)) (hR : R < base) : w'.ownsRow base e 1 v n xs := by
  refine h.kept hg ?_
  cases hb : v.ownBlock with
  | none => exact .inl rfl
  | some g => exact .inr fun e => by have := (h.lt g hb).1; simp at e; omega
theorem own_posL {W : World} {base : Nat} {e : TypeId} {size n : Nat} {v : Value} {xs : List Value} (h : W.ownsRow base e size v n xs) (hp : 0 < n) : ∃ g cap, v = .slice (some ⟨g, 0, none⟩) n cap := by
  rcases h.2 with ⟨_, h0⟩ | ⟨g, cap, cur, e, _⟩
  · omega
  · exact ⟨g, cap, e⟩
theorem ctx_nextL {w w3 : World} {t : TypeId} {v1 : Value} {r : List Int} (hown : w3.ownsRow w.heap.size t 1 v1 ([] ++ r).length (([] ++ r).map (Value.int .i64))) (hg : (w.alloc (.cells #[] t)).grownBy w3 (Value.ownBlock (.slice (some ⟨w.heap.size, 0, none⟩) 0 0))) :
    w3.ownsRow w.heap.size t 1 v1 r.length (r.map (Value.int .i64)) ∧ Below w.heap.size w w3 := by
  rw [List.nil_append] at hown
  exact ⟨hown, (below_none w t).grown hg (by simp) (fun k e => by simp [Value.ownBlock] at e; omega)⟩
theorem cell_intL {W : World} {a : Addr} {T : List Int} {j : Nat} (h : W.cell? a = (T.map (Value.int .i64))[j]?) (hj : j < T.length) : W.cell? a = some (.int .i64 (T[j]?.getD 0)) := by rw [h]; simp [hj]
theorem below_in {w a b : World} (h : Below w.heap.size w a) (hg : Below a.heap.size a b) : Below w.heap.size w b := below_step h hg

set_option maxRecDepth 100000 in
set_option maxHeartbeats 8000000 in
theorem DrawLiftValid_c (A : Option Addr) (n c : Nat) (w : World) (hn : n ≤ 9223372036854775807) (hnc : n ≤ c) (hb : Bytes w.heap.size w A n) :
    Calls Try.prog 67 #[.slice A n c] w (RetCl w) := by
  obtain ⟨i0, hi, hz0, hz1, hz2⟩ := info_parts intInf
  have Hb := Lib.hid hb
  clear hb
  go_enter Try.func67, Try.ntmps67
  go_wp2_with fail
  refine (l6Open_c A n c _ hn hnc Hb.out).mono ?_
  rintro e w0 ⟨n1, c1, rfl, hr0, hb0, hs0⟩
  have H0 := Lib.hid hr0
  have HB0 := Lib.hid hb0
  obtain ⟨R, hR⟩ : ∃ R, w.heap.size = R := ⟨_, rfl⟩
  rw [hR] at H0 hs0
  have hRR : w.heap.size ≤ R := by omega
  clear hr0 hb0
  have HC := Lib.hid (l92Chart_c R A n1 c1 0 6 w0 H0.out hs0 (by omega) (by omega) (by omega))
  rw [show ((6 : Nat) : Int) = 6 from rfl] at HC
  go_wp2_with fail
  refine HC.out.mono ?_
  rintro e w1 ⟨B, d, zs, q, rfl, hzl, ho1, hr1, hq, hg1⟩
  have HO1 := Lib.hid ho1
  have HR1 := Lib.hid hr1
  have HB1 := Lib.hid (draw_belowR HB0.out hRR hg1)
  have hs1 := hg1.size
  clear ho1 hr1 hg1 HC H0
  go_wp2_with fail
  refine (specLiftFirst_b B d zs _ (HO1.out.arg (by omega) (Nat.le_refl _))).mono ?_
  rintro e w2 ⟨A2, c2, rfl, _, ro, hb2⟩
  have hg2 : w1.grownBy w2 none := Lib.grownBy_below (World.grownBy.refl w1 none) hb2
  have HO2 := Lib.hid (HO1.out.kept hg2 (by simp))
  have HF2 := Lib.hid ro
  have HR2 := Lib.hid (HR1.out.kept hg2 (by simp))
  have HB2 := Lib.hid (below_step HB1.out hb2)
  have hs2 := hb2.size
  have hFl := firstV_len zs
  obtain ⟨F, hF⟩ : ∃ F, firstV zs = F := ⟨_, rfl⟩
  rw [hF] at HF2 hFl ⊢
  have q0 : IntKind.i64.wrap ((zs.length : Int) - 1) = (zs.length : Int) - 1 := IntWalk.i64_in _ (by omega)
  clear hb2 ro hF hg2 HO1 HR1 HB1
  dsimp only
  cases hv : chartB zs
  · clear hv HF2 HR2
    have Ha := Lib.hid (HO2.out.arg (by omega) (by omega))
    have Hown0 := Lib.hid (And.intro (show (w2.alloc (.cells #[] 3)).ownsRow w2.heap.size 3 1 (.slice (some ⟨w2.heap.size, 0, none⟩) 0 0) ([] : List Int).length (([] : List Int).map (Value.int .i64)) from own_none w2 _) (below_none w2 3))
    clear HO2
    go_wp2
    go_loopw [11, 12] (fun ov iv wr => ∃ (i : Nat) (v : Value) (xs : List Int), i ≤ zs.length ∧ iv = .int .i64 i ∧ v = ov ∧ xs.length = i ∧ wr.ownsRow w2.heap.size 3 1 v xs.length (xs.map (Value.int .i64)) ∧ Below w2.heap.size w2 wr) (fun _ iv _ => zs.length - (intOf iv).toNat)
    case atStart => exact ⟨0, _, [], Nat.zero_le _, rfl, rfl, rfl, Hown0.out.1, Hown0.out.2⟩
    case round =>
      obtain ⟨i, v, xs, hi3, rfl, rfl, hxi, hok, hbb⟩ := hrel
      have Hok := Lib.hid hok
      have Hbb := Lib.hid hbb
      clear hok hbb
      by_cases hlt : i < zs.length
      · have g1 : (i : Int) < (zs.length : Int) := by omega
        have q1 : IntKind.i64.wrap ((zs.length : Int) - 1 - (i : Int)) = (zs.length : Int) - 1 - (i : Int) := IntWalk.i64_in _ (by omega)
        have q2 : IntKind.i64.wrap ((i : Int) + 1) = (i : Int) + 1 := IntWalk.i64_in _ (by omega)
        obtain ⟨x, hx⟩ : ∃ x, (zs.length : Int) - 1 - (i : Int) = x := ⟨_, rfl⟩
        rw [hx] at q1
        have Hx := Lib.hid hx
        have s3 := Hbb.out.size
        go_wp2_with (at_builtin; refine wpList_append_ints rfl (.tmp 70) (.tmp 76) 25 rfl w2.heap.size 3 i0 (.int .i64 0) Try.underlying25 hi hz0 hz1 hz2 rfl v xs rfl (Hok.out.alloc _) (some ⟨wr.heap.size, 0, none⟩) 1 [x] rfl (arg_one wr x _) (by simp; omega) (by simp; omega) ?_; intro v6 w6 hown6 hg6; have H6 := Lib.hid (And.intro hown6 ((Hbb.out.alloc s3 _).grown hg6 (by simp; omega) (fun r e => (Hok.out.lt r e).1))); clear hown6 hg6)
        go_roundw
        case rel => exact ⟨i + 1, _, xs ++ [x], by omega, by go_num, rfl, by simp [hxi], H6.out.1, H6.out.2⟩
        case measure => simp [intOf]; omega
      · obtain rfl : i = zs.length := by omega
        obtain ⟨A9, c9, rfl, _, _, _⟩ := (Ow.of_own Hok.out).form
        have Hx9 := Lib.hid ((Ow.of_own Hok.out).arg (by omega) (Nat.le_refl _))
        go_wp2
        go_ret2
        exact ⟨B, d, zs, A9, c9, xs, rfl, by omega, by omega, Ha.out.go Hbb.out, Hx9.out, below_step HB2.out Hbb.out⟩
  clear hv
  go_wp2_with fail
  refine (pick_c R A n1 c1 q 3 _ HR2.out (by omega) (by omega) (by omega)).mono ?_
  rintro e w3 ⟨k3, rfl, k30, k31, hr3, hg3⟩
  have s3 := hg3.size
  have HO3 := Lib.hid (HO2.out.kept hg3 (fun r e => by cases e; exact .inl hs0))
  have HF3 := Lib.hid (HF2.out.kept hg3 (fun r e => by cases e; exact .inl (by omega)))
  have HR3 := Lib.hid hr3
  have HB3 := Lib.hid (draw_belowR HB2.out hRR hg3)
  clear hr3 hg3 HO2 HF2 HR2 HB2
  by_cases hk : k3 = 0
  · subst hk
    clear HF3 HR3
    have Ha := Lib.hid (HO3.out.arg (by omega) (by omega))
    have Hown0 := Lib.hid (And.intro (show (w3.alloc (.cells #[] 3)).ownsRow w3.heap.size 3 1 (.slice (some ⟨w3.heap.size, 0, none⟩) 0 0) ([] : List Int).length (([] : List Int).map (Value.int .i64)) from own_none w3 _) (below_none w3 3))
    clear HO3
    go_wp2
    go_loopw [11, 12] (fun ov iv wr => ∃ (i : Nat) (v : Value) (xs : List Int), i ≤ zs.length ∧ iv = .int .i64 i ∧ v = ov ∧ xs.length = i ∧ wr.ownsRow w3.heap.size 3 1 v xs.length (xs.map (Value.int .i64)) ∧ Below w3.heap.size w3 wr) (fun _ iv _ => zs.length - (intOf iv).toNat)
    case atStart => exact ⟨0, _, [], Nat.zero_le _, rfl, rfl, rfl, Hown0.out.1, Hown0.out.2⟩
    case round =>
      obtain ⟨i, v, xs, hi3, rfl, rfl, hxi, hok, hbb⟩ := hrel
      have Hok := Lib.hid hok
      have Hbb := Lib.hid hbb
      clear hok hbb
      by_cases hlt : i < zs.length
      · have g1 : (i : Int) < (zs.length : Int) := by omega
        have q1 : IntKind.i64.wrap ((zs.length : Int) - 1 - (i : Int)) = (zs.length : Int) - 1 - (i : Int) := IntWalk.i64_in _ (by omega)
        have q2 : IntKind.i64.wrap ((i : Int) + 1) = (i : Int) + 1 := IntWalk.i64_in _ (by omega)
        obtain ⟨x, hx⟩ : ∃ x, (zs.length : Int) - 1 - (i : Int) = x := ⟨_, rfl⟩
        rw [hx] at q1
        have Hx := Lib.hid hx
        have s3 := Hbb.out.size
        go_wp2_with (at_builtin; refine wpList_append_ints rfl (.tmp 70) (.tmp 76) 25 rfl w3.heap.size 3 i0 (.int .i64 0) Try.underlying25 hi hz0 hz1 hz2 rfl v xs rfl (Hok.out.alloc _) (some ⟨wr.heap.size, 0, none⟩) 1 [x] rfl (arg_one wr x _) (by simp; omega) (by simp; omega) ?_; intro v6 w6 hown6 hg6; have H6 := Lib.hid (And.intro hown6 ((Hbb.out.alloc s3 _).grown hg6 (by simp; omega) (fun r e => (Hok.out.lt r e).1))); clear hown6 hg6)
        go_roundw
        case rel => exact ⟨i + 1, _, xs ++ [x], by omega, by go_num, rfl, by simp [hxi], H6.out.1, H6.out.2⟩
        case measure => simp [intOf]; omega
      · obtain rfl : i = zs.length := by omega
        obtain ⟨A9, c9, rfl, _, _, _⟩ := (Ow.of_own Hok.out).form
        have Hx9 := Lib.hid ((Ow.of_own Hok.out).arg (by omega) (Nat.le_refl _))
        go_wp2
        go_ret2
        exact ⟨B, d, zs, A9, c9, xs, rfl, by omega, by omega, Ha.out.go Hbb.out, Hx9.out, below_step HB3.out Hbb.out⟩
  have hk1 : (0 : Int) < k3 := by omega
  have HFa := Lib.hid (HF3.out.arg (by omega) (by omega))
  have HBn := Lib.hid (below_none w3 3)
  clear HF3
  rcases (by omega : ¬ 1 < F.length ∨ 1 < F.length) with h1 | h1
  · have g9 : decide ((1 : Int) < (F.length : Int)) = false := decide_eq_false (by omega)
    go_wp2_with (at_builtin; refine wpList_append_ints rfl (.tmp 28) (.tmp 29) 25 rfl w3.heap.size 3 i0 (.int .i64 0) Try.underlying25 hi hz0 hz1 hz2 rfl (.slice (some ⟨w3.heap.size, 0, none⟩) 0 0) [] rfl (own_none w3 _) A2 c2 F rfl (HFa.out.go HBn.out) (by simp; omega) (by simp) ?_; intro v6 w6 hown6 hg6; have H6 := Lib.hid (ctx_nextL hown6 hg6); clear hown6 hg6; obtain ⟨A9, c9, rfl, _, _, _⟩ := (Ow.of_own H6.out.1).form)
    go_ret2
    have Hx9 := (Ow.of_own H6.out.1).arg (by omega) (Nat.le_refl _)
    exact ⟨B, d, zs, A9, c9, F, rfl, by omega, by omega, (HO3.out.arg (by omega) (by omega)).go H6.out.2, Hx9, below_step HB3.out H6.out.2⟩
  have g9 : decide ((1 : Int) < (F.length : Int)) = true := decide_eq_true (by omega)
  have q5 : IntKind.i64.wrap ((F.length : Int) - 1) = (F.length : Int) - 1 := IntWalk.i64_in _ (by omega)
  go_wp2_with (at_builtin; refine wpList_append_ints rfl (.tmp 28) (.tmp 29) 25 rfl w3.heap.size 3 i0 (.int .i64 0) Try.underlying25 hi hz0 hz1 hz2 rfl (.slice (some ⟨w3.heap.size, 0, none⟩) 0 0) [] rfl (own_none w3 _) A2 c2 F rfl (HFa.out.go HBn.out) (by simp; omega) (by simp) ?_; intro v6 w6 hown6 hg6; have H6 := Lib.hid (ctx_nextL hown6 hg6); clear hown6 hg6; obtain ⟨g, cap, rfl⟩ := own_posL H6.out.1 (by omega); have g6 := Lib.hid (Lib.grownBy_below (World.grownBy.refl w3 none) H6.out.2))
  have s6 := H6.out.2.size
  have HO6 := Lib.hid (HO3.out.kept g6.out (by simp))
  have HR6 := Lib.hid (HR3.out.kept g6.out (by simp))
  have HB6 := Lib.hid (below_step HB3.out H6.out.2)
  have HW6 := Lib.hid H6.out.1
  have hgl := (HW6.out.lt g rfl).1
  have hgl2 := (HW6.out.lt g rfl).2
  clear g6 HO3 HR3 HB3 H6
  refine (pick_c R A n1 c1 (q + 1) 2 _ HR6.out (by omega) (by omega) (by omega)).mono ?_
  rintro e w7 ⟨k4, rfl, k40, k41, hr7, hg7⟩
  have s7 := hg7.size
  have HO7 := Lib.hid (HO6.out.kept hg7 (fun r e => by cases e; exact .inl hs0))
  have HR7 := Lib.hid hr7
  have HB7 := Lib.hid (draw_belowR HB6.out hRR hg7)
  have HW7 := Lib.hid (own_kept_L HW6.out hg7 (by omega))
  clear hr7 hg7 HO6 HR6 HB6 HW6
  rcases (by omega : ¬ k4 = 0 ∨ k4 = 0) with hk4 | hk4
  · have b4 : (k4 == 0) = false := beq_eq_false_iff_ne.2 hk4
    go_wp2
    go_ret2
    have Hx9 := (Ow.of_own HW7.out).arg (by omega) (Nat.le_refl _)
    exact ⟨B, d, zs, _, cap, F, rfl, by omega, by omega, HO7.out.arg (by omega) (by omega), Hx9, HB7.out⟩
  subst hk4
  go_wp2_with fail
  refine (pick_c R A n1 c1 (q + 1 + 1) ((F.length : Int) - 1) _ HR7.out (by omega) (by omega) (by omega)).mono ?_
  rintro e w8 ⟨k5, rfl, k50, k51, hr8, hg8⟩
  have s8 := hg8.size
  have HO8 := Lib.hid (HO7.out.kept hg8 (fun r e => by cases e; exact .inl hs0))
  have HB8 := Lib.hid (draw_belowR HB7.out hRR hg8)
  have HW8 := Lib.hid (own_kept_L HW7.out hg8 (by omega))
  clear hr8 hg8 HO7 HR7 HB7 HW7
  obtain ⟨k, rfl⟩ : ∃ k : Nat, k5 = (k : Int) := ⟨k5.toNat, by omega⟩
  have hk1 : k + 1 < F.length := by omega
  have hk0 : k < F.length := by omega
  have t1 := cell_intL (HW8.out.cellAt k (by omega)) hk0
  have t2 := cell_intL (HW8.out.cellAt (k + 1) (by omega)) hk1
  obtain ⟨x, hx⟩ : ∃ x, F[k]?.getD 0 = x := ⟨_, rfl⟩
  obtain ⟨y, hy⟩ : ∃ y, F[k + 1]?.getD 0 = y := ⟨_, rfl⟩
  rw [hx] at t1
  rw [hy] at t2
  have f1 := HW8.out.frozenAt k
  have hst := HW8.out.stored k (.int .i64 y)
  have f2 := hst.1.frozenAt (k + 1)
  have hst2 := hst.1.stored (k + 1) (.int .i64 x)
  have hO9 := HO8.out.kept hst.2 (fun r e => by cases e; exact .inr (by omega))
  have hO10 := hO9.kept hst2.2 (fun r e => by cases e; exact .inr (by omega))
  have hB9 := HB8.out.grown hst.2 HB8.out.size (fun r e => by cases e; omega)
  have hB10 := hB9.grown hst2.2 hB9.size (fun r e => by cases e; omega)
  have hW10 := hst2.1
  rw [← List.map_set, ← List.map_set] at hW10
  have HO10 := Lib.hid hO10
  have HB10 := Lib.hid hB10
  have HW10 := Lib.hid hW10
  have q6 : IntKind.i64.wrap ((k : Int) + 1) = (k : Int) + 1 := IntWalk.i64_in _ (by omega)
  have g1 : (k : Int) < (F.length : Int) := by omega
  have g2 : (k : Int) + 1 < (F.length : Int) := by omega
  have g3 : (0 : Int) ≤ (k : Int) + 1 := by omega
  have g4 : ((k : Int) + 1).toNat = k + 1 := by omega
  have s9 := hst.2.size
  have s10 := hst2.2.size
  clear hst hst2 hO9 hO10 hB9 hB10 hW10 hx hy
  go_wp2
  refine bodyPost_ret (v := .tuple #[.slice B zs.length d, .slice (some ⟨g, 0, none⟩) F.length cap]) (by simp [results, Try.results67, go_sem]) rfl ?_
  obtain ⟨wz, hwz⟩ : ∃ wz, wz = (w8.setCell ⟨g, k, none⟩ (.int .i64 y)).setCell ⟨g, k + 1, none⟩ (.int .i64 x) := ⟨_, rfl⟩
  rw [← hwz] at HO10 HB10 HW10 s10 ⊢
  have hl : ((F.set k y).set (k + 1) x).length = F.length := by simp
  have hX : Ow 3 w3.heap.size wz.heap.size wz (.slice (some ⟨g, 0, none⟩) ((F.set k y).set (k + 1) x).length cap) ((F.set k y).set (k + 1) x) := Ow.of_own (by rw [hl]; exact HW10.out)
  exact ⟨B, d, zs, some ⟨g, 0, none⟩, cap, (F.set k y).set (k + 1) x, by rw [hl], by omega, by omega, HO10.out.arg (by omega) (by omega), hX.arg (by omega) (Nat.le_refl _), HB10.out⟩

end Go.Proofs.Ytjboamhjfncgdaa
