/-
  SparesTake of the program.
-/
import Derived.Test.YtkicifkigbciaaaDelW
namespace Go.Proofs.Ytkicifkigbciaaa
open Go.RowKit

theorem sprCells_setm (zs : List Spr) (k : Nat) (hk : k < zs.length) (v : Int) : (sprCells zs).set (k * 2) (.int .i64 v) = sprCells (zs.set k ⟨v, (sprAt zs k).k⟩) := by
  have htk : (sprCells (zs.take k)).length = k * 2 := by rw [sprCells_length, List.length_take]; omega
  rw [sprCells_drop zs k hk, List.set_append_right _ _ (by omega), htk, Nat.sub_self]
  rw [List.set_eq_take_append_cons_drop (l := zs), if_pos hk, sprCells_append, sprCells_cons, sprAt_lt hk]
  rfl
theorem take_set_drop (zs : List Spr) (k : Nat) (x : Spr) : (zs.set k x).take k ++ (zs.set k x).drop (k + 1) = zs.take k ++ zs.drop (k + 1) := by
  rw [List.take_set_of_le (Nat.le_refl _), List.drop_set_of_lt (by omega)]
theorem take_set_cons (zs : List Spr) (k : Nat) (hk : k < zs.length) (x : Spr) : zs.set k x = zs.take k ++ ([x] ++ zs.drop (k + 1)) := by
  rw [List.set_eq_take_append_cons_drop, if_pos hk]; rfl
theorem own_form {w : World} {base n c : Nat} {e : TypeId} {A : Option Addr} {xs : List Value} (h : w.ownsRow base e 2 (.slice A n c) n xs) (hn : 0 < n) : ∃ g, A = some ⟨g, 0, none⟩ := by
  rcases h.2 with ⟨_, h0⟩ | ⟨g, cap, cur, e1, _⟩
  · omega
  · injection e1 with e1 _ _; exact ⟨g, e1⟩

set_option maxRecDepth 100000 in
set_option maxHeartbeats 2000000 in
theorem implSparesTake_b (A : Option Addr) (c : Nat) (L : List Spr) (k m : Int) (w : World) (ha : ArgZ w A c L) (hk : -9223372036854775808 ≤ k ∧ k ≤ 9223372036854775807) (hm : -9223372036854775808 ≤ m ∧ m ≤ 9223372036854775807) :
    Calls Try.prog 43 #[.slice A L.length c, .int .i64 k, .int .i64 m] w (RetZ 25 (fun v => .tuple #[v, .bool (takeB L k m)]) (takeL L k m) w) := by
  have hlen := ha.len
  obtain ⟨hk1, hk2⟩ := hk
  obtain ⟨hm1, hm2⟩ := hm
  have HA := Lib.hid ha
  clear ha
  go_enter Try.func43, Try.ntmps43
  go_wp2_with fail
  refine (implSparesValid_b A c L _ HA.out).mono ?_
  rintro e w1 ⟨rfl, hb1⟩
  have Hb1 := Lib.hid hb1
  have HA1 := Lib.hid (HA.out.go hb1)
  clear hb1
  cases hv : sprB 10 L
  · have Hv := Lib.hid (show takeB L k m = false by unfold takeB; rw [hv]; rfl)
    clear hv
    go_wp2
    go_ret2
    rw [takeL_no Hv.out, Hv.out]
    exact RetZ.nil (f := fun v => .tuple #[v, .bool false]) Hb1.out
  have Hv := Lib.hid hv
  have hl10 := (sprB_true.1 hv).1
  clear hv
  go_wp2_with fail
  refine (inRange_c _ _ _ _).mono ?_
  rintro e w2 ⟨rfl, rfl⟩
  cases hk : inB k 0 ((L.length : Int) - 1)
  · have Hk := Lib.hid (show takeB L k m = false by unfold takeB; rw [hk, Hv.out]; rfl)
    clear hk
    go_wp2
    go_ret2
    rw [takeL_no Hk.out, Hk.out]
    exact RetZ.nil (f := fun v => .tuple #[v, .bool false]) Hb1.out
  have Hk := Lib.hid hk
  obtain ⟨n, rfl⟩ : ∃ n : Nat, k = (n : Int) := ⟨k.toNat, by have := (inB_true.1 hk).1; omega⟩
  have hlt : n < L.length := by have := (inB_true.1 hk).2; omega
  clear hk
  have g1 : (n : Int) < (L.length : Int) := by omega
  have hL := HA1.out
  obtain ⟨b, off, rfl, _, hbw, hc0, hc1⟩ := hL.rd.at_ hlt
  have hbd := (sprB_at Hv.out hlt).1
  have hLd := Lib.hid (show takeB L n m = true → takeL L n m = L.take n ++ ((if m < (sprAt L n).m then [⟨(sprAt L n).m - m, (sprAt L n).k⟩] else []) ++ L.drop (n + 1)) from fun h => by unfold takeL; rw [if_pos h]; simp)
  have hTB := Lib.hid (show takeB L n m = inB m 1 (sprAt L n).m by unfold takeB; rw [Hv.out, Hk.out]; simp)
  have Hset := Lib.hid (fun v => sprCells_setm L n hlt v)
  obtain ⟨s, hs⟩ : ∃ s, sprAt L n = s := ⟨_, rfl⟩
  rw [hs] at hc0 hc1 hbd hLd hTB Hset
  have Hs := Lib.hid hs
  clear hs hL
  go_wp2_with fail
  refine (inRange_c _ _ _ _).mono ?_
  rintro e w2 ⟨rfl, rfl⟩
  cases hm : inB m 1 s.m
  · have Hm := Lib.hid (show takeB L n m = false by rw [hTB.out, hm])
    clear hm
    go_wp2
    go_ret2
    rw [takeL_no Hm.out, Hm.out]
    exact RetZ.nil (f := fun v => .tuple #[v, .bool false]) Hb1.out
  have Hm := Lib.hid hm
  obtain ⟨hm3, hm4⟩ := inB_true.1 hm
  have HT := Lib.hid (show takeB L n m = true by rw [hTB.out, hm])
  have hLd2 := Lib.hid (hLd.out HT.out)
  clear hm hc0 hc1
  go_wp2_with fail
  refine (cloneZ_c _ c L _ HA1.out).mono ?_
  rintro e w2 ⟨A2, c2, rfl, ra2, ro2, rb2⟩
  dsimp only [id]
  have ho2 := ro2.own
  obtain ⟨g, rfl⟩ := own_form ho2 (by omega)
  obtain ⟨r1, r2, r3, r4, r5⟩ := own_room ho2
  obtain ⟨b', off', e', _, _, hd0, hd1⟩ := ra2.rd.at_ hlt
  injection e' with e'
  injection e' with e1 e2 _
  subst e1; subst e2
  rw [Hs.out, Nat.zero_add] at hd0
  have hfr := (r5 (n * 2) (by omega)).2
  obtain ⟨hst, hgr⟩ := ho2.stored (n * 2) (.int .i64 (s.m - m))
  rw [Hset.out] at hst
  have q1 : IntKind.i64.wrap (s.m - m) = s.m - m := IntWalk.i64_in _ (by omega)
  have hoN : OnZ w1 (w2.setCell ⟨g, n * 2, none⟩ (.int .i64 (s.m - m))) (.slice (some ⟨g, 0, none⟩) L.length c2) (L.set n ⟨s.m - m, s.k⟩) := ⟨by rw [List.length_set]; exact hst, rb2.grown hgr rb2.size (fun k e => by injection e with e; omega)⟩
  have hd3 : (w2.setCell ⟨g, n * 2, none⟩ (.int .i64 (s.m - m))).cell? ⟨g, n * 2, none⟩ = some (.int .i64 (s.m - m)) := by
    have h1 : OwZ 25 w1.heap.size (w2.setCell ⟨g, n * 2, none⟩ (.int .i64 (s.m - m))).heap.size (w2.setCell ⟨g, n * 2, none⟩ (.int .i64 (s.m - m))) (.slice (some ⟨g, 0, none⟩) (L.set n ⟨s.m - m, s.k⟩).length c2) (L.set n ⟨s.m - m, s.k⟩) := by
      have := hoN.1; rw [List.length_set] at this ⊢; exact OwZ.of_own (by rw [List.length_set]; exact this)
    obtain ⟨A9, c9, e9, _, _, h9⟩ := h1.form
    injection e9 with e9 _ e8
    subst e9; subst e8
    obtain ⟨b9, o9, f9, _, _, f0, _⟩ := h9.at_ (k := n) (by rw [List.length_set]; exact hlt)
    injection f9 with f9
    injection f9 with f1 f2 _
    subst f1; subst f2
    rw [Nat.zero_add, show sprAt (L.set n ⟨s.m - m, s.k⟩) n = ⟨s.m - m, s.k⟩ by unfold sprAt; simp [hlt]] at f0
    exact f0
  have HoN := Lib.hid hoN
  have HE : ∀ (zs : List Spr) (w5 : World) (v5 : Value), zs.length ≤ 2097152 → zs = takeL L n m → OnZ w1 w5 v5 zs → RetZ 25 (fun v => .tuple #[v, .bool true]) (takeL L n m) w (.returned (.tuple #[v5, .bool true])) w5 := by
    intro zs w5 v5 hz he h
    subst he
    exact RetZ.mk (f := fun v => .tuple #[v, .bool true]) hz (h.base Hb1.out).1 (h.base Hb1.out).2
  have HE := Lib.hid HE
  by_cases hms : m < s.m
  · have HL := Lib.hid (show L.set n ⟨s.m - m, s.k⟩ = takeL L n m by rw [hLd2.out, if_pos hms, take_set_cons _ _ hlt])
    have hne : ¬ s.m - m = 0 := by omega
    have hnb : (s.m - m == 0) = false := beq_false_of_ne hne
    clear hst hgr hoN ho2 ro2 ra2 rb2 r5 hLd2
    go_wp2
    go_ret2
    rw [HT.out]
    exact HE.out _ _ _ (by rw [List.length_set]; omega) HL.out HoN.out
  · have he : m = s.m := by omega
    have HL := Lib.hid (show L.take n ++ L.drop (n + 1) = takeL L n m by rw [hLd2.out, if_neg hms, List.nil_append])
    have hdel := deleteZ_c w1.heap.size g c2 n (L.set n ⟨s.m - m, s.k⟩) (w2.setCell ⟨g, n * 2, none⟩ (.int .i64 (s.m - m))) (by rw [List.length_set]; exact hst) (by rw [List.length_set]; exact hlt) (by rw [List.length_set]; omega)
    rw [take_set_drop, List.length_set] at hdel
    have h0 : s.m - m = 0 := by omega
    rw [h0] at hdel hoN
    have Hdel := Lib.hid hdel
    replace HoN := Lib.hid hoN
    clear hdel hst hgr hoN ho2 ro2 ra2 rb2 r5 hLd2
    go_wp2_with fail
    refine Hdel.out.mono ?_
    rintro e w4 ⟨rfl, ho4, hg4⟩
    have hl4 : (L.take n ++ L.drop (n + 1)).length = L.length - 1 := by simp; omega
    have H4 := Lib.hid (show OnZ w1 w4 (.slice (some ⟨g, 0, none⟩) (L.length - 1) c2) (L.take n ++ L.drop (n + 1)) from HoN.out.grown0 (by rw [hl4]; exact ho4) hg4)
    clear ho4 hg4
    go_wp2
    go_ret2
    rw [HT.out]
    exact HE.out _ _ _ (by omega) HL.out H4.out

end Go.Proofs.Ytkicifkigbciaaa
