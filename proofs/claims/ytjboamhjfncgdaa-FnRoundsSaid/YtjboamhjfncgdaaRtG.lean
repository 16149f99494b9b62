/-
  liftAll, LiftFirst and LiftRounds of the program.
-/
import Derived.Test.YtjboamhjfncgdaaRtL
import Derived.Test.YtjboamhjfncgdaaRtR
namespace Go.Proofs.Ytjboamhjfncgdaa
open Go.RowKit

theorem ta_yes (w : World) : (Instr.typeAssert (.iface 99 (.agg #[])) 71 99 true).run Try.prog w = .ok (.tuple #[.agg #[], .bool true]) w := by kernel_rfl
theorem ta_no (V : Value) (w : World) : (Instr.typeAssert (.iface 101 V) 71 99 true).run Try.prog w = .ok (.tuple #[.agg #[], .bool false]) w := by kernel_rfl
theorem own_oneV (w : World) (u : Value) (t : TypeId) : (w.alloc (.cells #[u] t)).ownsRow w.heap.size t 1 (.slice (some ⟨w.heap.size, 0, none⟩) 1 1) 1 [u] :=
  ⟨by simp, .inr ⟨w.heap.size, 1, #[u], rfl, Nat.le_refl _, heap_alloc_new w _, by simp, by simp [maxLen], by simp, by simp⟩⟩
theorem ints_take (l : List Nat) (k : Nat) : (ints l).take k = ints (l.take k) := by unfold ints; rw [List.map_take]
def RetSS (Ls : List (List Int)) (w : World) (e : Ending) (w' : World) : Prop := ∃ A c, e = .returned (.slice A Ls.length c) ∧ ArgSS w' A c Ls ∧ Below w.heap.size w w'
theorem arg_grown_ne {w w' : World} {A : Option Addr} {c b : Nat} {zs : List Int} (ha : Arg w A c zs) (hg : w.grownBy w' (some b)) (hne : ∀ o x, w.cell? ⟨b, o, none⟩ ≠ some (.int .i64 x)) : Arg w' A c zs :=
  ⟨ha.1, ha.2.1, ha.2.2.1, fun hn => by
    obtain ⟨b', off, e, h1, h2, hc⟩ := ha.rd hn
    have hb : b' ≠ b := fun e2 => by
      have := hc 0 hn
      rw [e2] at this
      exact hne _ _ this
    refine ⟨b', off, e, h1, Nat.lt_of_lt_of_le h2 hg.size, fun j hj => ?_⟩
    exact (World.cell?_of_block (a := ⟨b', off + j, none⟩) (hg.block b' h2 (fun e2 => hb (by injection e2)))).trans (hc j hj)⟩
theorem row2_grown_ne {w w' : World} {vs : List Value} {Ls : List (List Int)} {b : Nat} (h : Row2 w vs Ls) (hg : w.grownBy w' (some b)) (hne : ∀ o x, w.cell? ⟨b, o, none⟩ ≠ some (.int .i64 x)) : Row2 w' vs Ls := ⟨h.1, fun j hj => by
  obtain ⟨a, cc, h1, h2⟩ := h.2 j hj
  exact ⟨a, cc, h1, arg_grown_ne h2 hg hne⟩⟩
theorem row_no_int {w : World} {base b : Nat} {t : TypeId} {A : Option Addr} {n c : Nat} (h : w.ownsRow base t 1 (.slice (some ⟨b, 0, none⟩) 1 1) 1 [.slice A n c]) : ∀ o x, w.cell? ⟨b, o, none⟩ ≠ some (.int .i64 x) := fun o x hc => by
  rcases h.2 with ⟨h3, _⟩ | ⟨g, cap, cur, e1, hg, hgg, hnc, hm, hs, ht⟩
  · cases h3
  · injection e1 with e1 e2 e3
    injection e1 with e1
    injection e1 with e1
    subst e1; subst e3
    rw [cell_of_row _ _ o _ _ _ hgg] at hc
    have hlt := (Array.getElem?_eq_some_iff.1 hc).1
    have ho : o = 0 := by omega
    subst ho
    have : cur.toList[0]? = some (.slice A n c) := by
      have h5 := congrArg (fun l => l[0]?) ht
      simpa using h5
    rw [Array.getElem?_toList, hc] at this
    cases this
theorem rounds_end {w w6 w9 : World} {A3 : Option Addr} {c3 KK b : Nat} {G : List Nat} {X : List (List Int)} {vs : List Value} {v' : Value} (hgl : (ints G).length = KK) (ha : Arg w6 A3 c3 (ints G)) (hr : Row2 w6 vs X)
    (hoL : w6.ownsRow w.heap.size 25 1 (.slice (some ⟨b, 0, none⟩) 1 1) 1 [.slice A3 KK c3]) (ho : w9.ownsRow w.heap.size 25 1 v' (1 + X.length) ([.slice A3 KK c3] ++ vs))
    (hg : w6.grownBy w9 (Value.ownBlock (.slice (some ⟨b, 0, none⟩) 1 1))) (hb : Below w.heap.size w w9) : RetSS (ints G :: X) w (.returned v') w9 := by
  have hne := row_no_int hoL
  have hg' : w6.grownBy w9 (some b) := hg
  have h1 := (row2_grown_ne hr hg' hne).cons (arg_grown_ne ha hg' hne)
  rw [hgl] at h1
  have hlen : 1 + X.length = (ints G :: X).length := by rw [List.length_cons]; omega
  rcases ho.2 with ⟨_, h0⟩ | ⟨g, cap, cur, e1, _⟩
  · omega
  · have ho2 := ho
    rw [e1] at ho2
    exact ⟨some ⟨g, 0, none⟩, cap, by rw [e1, hlen], ArgSS.of_own ho2 hlen h1, hb⟩

set_option maxRecDepth 100000 in
set_option maxHeartbeats 4000000 in
theorem liftAll_c (R : List Rot) (most : Nat) (hm1 : 1 ≤ most) (hm8 : most ≤ 8) (hch : chartB R = true) : ∀ (f : Nat) (L : List Int), (leftN R L).length ≤ f → f ≤ 1000 → ∀ w,
    Calls Try.prog 76 #[.iface (tyR (leftN R L)) (pay R (leftN R L)), .int .i64 (most : Int)] w (RetSS ((rndF R most f L).map ints) w) := by
  intro f
  induction f with
  | zero =>
    intro L hf h1000 w
    have hl := List.eq_nil_of_length_eq_zero (Nat.le_zero.1 hf)
    rw [hl, rndF_nil hl]
    show Calls Try.prog 76 #[.iface 99 (.agg #[]), .int .i64 (most : Int)] w _
    clear hl hf hch
    have hta := ta_yes
    go_enter Try.func76, Try.ntmps76
    go_wp2
    go_ret
    exact ⟨none, 0, rfl, ArgSS.nil _, Below.refl _ _⟩
  | succ f ih =>
    intro L hf h1000 w
    by_cases hl : leftN R L = []
    · rw [hl, rndF_nil hl]
      show Calls Try.prog 76 #[.iface 99 (.agg #[]), .int .i64 (most : Int)] w _
      clear hl hf hch
      have hta := ta_yes
      go_enter Try.func76, Try.ntmps76
      go_wp2
      go_ret
      exact ⟨none, 0, rfl, ArgSS.nil _, Below.refl _ _⟩
    have h8 := chart_len hch
    have hrl := round_left hl hm1
    have Ih := Lib.hid (ih (L ++ ints ((freeN R L).take most)) (by omega) (by omega))
    have hcons := rndF_cons (f := f) (most := most) hl
    have hfr := freeL_left R L
    have hfl := freeN_len R L
    have hmore := leftN_more R L (ints ((freeN R L).take most))
    have hin : ∀ i ∈ leftN R L, RtIn (rotAt R i) := chart_all hch (left_lt _ _)
    have hl8 : (leftN R L).length ≤ 8 := Nat.le_trans (leftN_len _ _) h8
    have hfn := List.length_pos_iff.2 (free_some hl)
    obtain ⟨l, hll⟩ : ∃ l, leftN R L = l := ⟨_, rfl⟩
    obtain ⟨F, hF⟩ : ∃ F, freeN R L = F := ⟨_, rfl⟩
    rw [hll] at hl hfr hmore hin hl8 hrl hf ⊢
    rw [hF] at Ih hcons hfr hfl hmore hfn hrl
    obtain ⟨G, hG⟩ : ∃ G, F.take most = G := ⟨_, rfl⟩
    have hGl : G.length = min most F.length := by rw [← hG]; simp
    rw [hG] at Ih hcons hmore
    obtain ⟨M, hM⟩ : ∃ M, leftN R (L ++ ints G) = M := ⟨_, rfl⟩
    rw [hM] at Ih hmore
    have hm := fun w => fr_meth R l w
    have hk := fun args w => fr_call l args w
    have hn := fun w => wi_meth R l w
    have hq := fun args w => wi_call l args w
    have HFr := Lib.hid (fun w => free_c R l hin hl8 w)
    have HWi := Lib.hid (fun A c zs w ha => without_c R l A c zs w ha)
    rw [hfr] at HFr
    have hT : tyR l = 101 := by
      cases l with
      | nil => exact absurd rfl hl
      | cons i l => rfl
    obtain ⟨V, hV⟩ : ∃ V, pay R l = V := ⟨_, rfl⟩
    obtain ⟨g, hg⟩ : ∃ g, frF l = g := ⟨_, rfl⟩
    obtain ⟨g', hg'⟩ : ∃ g, wiF l = g := ⟨_, rfl⟩
    rw [hT, hV, hg] at hm
    rw [hg] at hk
    rw [hT, hV, hg'] at hn
    rw [hg'] at hq
    rw [hV, hg] at HFr
    rw [hV, hg'] at HWi
    rw [hT, hV]
    unfold restV at HWi
    rw [hcons]
    obtain ⟨Q, hQ⟩ : ∃ Q, rndF R most f (L ++ ints G) = Q := ⟨_, rfl⟩
    have hQl : Q.length ≤ f := by rw [← hQ]; exact rndF_len R most f _
    rw [hQ] at Ih ⊢
    rw [List.map_cons]
    obtain ⟨X, hX⟩ : ∃ X, Q.map ints = X := ⟨_, rfl⟩
    have hXl : X.length ≤ 1000 := by rw [← hX, List.length_map]; omega
    rw [hX] at Ih ⊢
    clear hX hQl
    have Hmore := Lib.hid hmore
    have hFl : F.length ≤ 8 := by omega
    have HG := Lib.hid hG
    have hgl2 : (ints F).length = F.length := ints_length F
    clear hrl hcons hfr hfl hmore hin hl8 hll hF hG hM hT hV hg hg' hQ hl hf hch ih
    have hta := ta_no V
    go_enter Try.func76, Try.ntmps76
    go_wp2_with fail
    refine (HFr.out _).mono ?_
    rintro e w3 ⟨A3, c3, rfl, ra3, ro3, rb3⟩
    dsimp only [id]
    have hfc := ra3.2.1
    have Ra := Lib.hid ra3
    have Rb := Lib.hid rb3
    have hs3 := rb3.size
    obtain ⟨i0, hi, hz0, hz1, hz2⟩ := info_parts rowInf
    clear ra3 ro3 rb3
    have g1 : F.length ≤ c3 := by omega
    have hcM : c3 ≤ maxLen := Ra.out.2.2.1
    by_cases hlt : F.length < most
    · obtain rfl : G = F := by rw [← HG.out, List.take_of_length_le (by omega)]
      have HWo := HWi.out A3 c3 (ints G) (w3.alloc (.cells #[.slice A3 G.length c3] 25)) (Ra.out.go ((Below.refl _ _).alloc (Nat.le_refl _) _))
      have hgl : (ints G).length = G.length := ints_length G
      have HGl := Lib.hid hgl
      rw [hgl] at HWo
      rw [Hmore.out] at HWo
      have HW := Lib.hid HWo
      have HarG := Lib.hid Ra.out
      have HoL := Lib.hid (OwnsRow.more (own_oneV w3 (.slice A3 G.length c3) 25) hs3)
      have HB4 := Lib.hid (Rb.out.alloc Rb.out.size (.cells #[.slice A3 G.length c3] 25))
      clear HWo hgl HWi HFr Hmore hGl
      go_wp2_with fail
      refine HW.out.mono ?_
      rintro e w5 ⟨rfl, hb5⟩
      have HoL5 := Lib.hid (own_below HoL.out hb5)
      have HarG5 := Lib.hid ((HarG.out.go ((Below.refl _ _).alloc (Nat.le_refl _) _)).go hb5)
      have HB5 := Lib.hid (below_step HB4.out hb5)
      clear hb5 HW HoL HarG
      go_wp2_with fail
      refine (Ih.out _).mono ?_
      rintro e w6 ⟨A6, c6, rfl, ra6, hb6⟩
      have HoL6 := Lib.hid (own_below HoL5.out hb6)
      have HarG6 := Lib.hid (HarG5.out.go hb6)
      have HB6 := Lib.hid (below_step HB5.out hb6)
      have Ra6 := Lib.hid ra6
      clear ra6 hb6 Ih HoL5 HarG5
      go_wp2_with (at_builtin; refine wpList_append_rows rfl (.tmp 17) (.tmp 22) 68 rfl w.heap.size 25 i0 (.slice none 0 0) Try.underlying68 hi hz0 hz1 hz2 rfl (.slice (some ⟨w3.heap.size, 0, none⟩) 1 1) 1 [.slice A3 G.length c3] rfl HoL6.out A6 c6 X rfl Ra6.out (by omega) HB6.out.size ?_; intro vs hvs v' w9 hown9 hg9; have Hvs := Lib.hid hvs; have Hown9 := Lib.hid hown9; have HB9 := Lib.hid (HB6.out.grown hg9 HB6.out.size (fun r e => (HoL6.out.lt r e).1)); have HG9 := Lib.hid hg9; clear hvs hown9 hg9)
      go_ret
      exact rounds_end HGl.out HarG6.out Hvs.out HoL6.out Hown9.out HG9.out HB9.out
    · have g4 : most ≤ c3 := by omega
      have g5 : ((ints F).take most).length = most := by simp [ints_length]; omega
      have HT := Ra.out.take most
      rw [ints_take, HG.out] at HT
      have HWo := HWi.out A3 c3 (ints G) (w3.alloc (.cells #[.slice A3 most c3] 25)) (HT.go ((Below.refl _ _).alloc (Nat.le_refl _) _))
      have hgl : (ints G).length = most := by rw [ints_length, hGl]; omega
      have HGl := Lib.hid hgl
      rw [hgl] at HWo
      rw [Hmore.out] at HWo
      have HW := Lib.hid HWo
      have HarG := Lib.hid HT
      have HoL := Lib.hid (OwnsRow.more (own_oneV w3 (.slice A3 most c3) 25) hs3)
      have HB4 := Lib.hid (Rb.out.alloc Rb.out.size (.cells #[.slice A3 most c3] 25))
      clear HWo hgl HWi HFr Hmore hGl
      go_wp2_with fail
      refine HW.out.mono ?_
      rintro e w5 ⟨rfl, hb5⟩
      have HoL5 := Lib.hid (own_below HoL.out hb5)
      have HarG5 := Lib.hid ((HarG.out.go ((Below.refl _ _).alloc (Nat.le_refl _) _)).go hb5)
      have HB5 := Lib.hid (below_step HB4.out hb5)
      clear hb5 HW HoL HarG
      go_wp2_with fail
      refine (Ih.out _).mono ?_
      rintro e w6 ⟨A6, c6, rfl, ra6, hb6⟩
      have HoL6 := Lib.hid (own_below HoL5.out hb6)
      have HarG6 := Lib.hid (HarG5.out.go hb6)
      have HB6 := Lib.hid (below_step HB5.out hb6)
      have Ra6 := Lib.hid ra6
      clear ra6 hb6 Ih HoL5 HarG5
      go_wp2_with (at_builtin; refine wpList_append_rows rfl (.tmp 17) (.tmp 22) 68 rfl w.heap.size 25 i0 (.slice none 0 0) Try.underlying68 hi hz0 hz1 hz2 rfl (.slice (some ⟨w3.heap.size, 0, none⟩) 1 1) 1 [.slice A3 most c3] rfl HoL6.out A6 c6 X rfl Ra6.out (by omega) HB6.out.size ?_; intro vs hvs v' w9 hown9 hg9; have Hvs := Lib.hid hvs; have Hown9 := Lib.hid hown9; have HB9 := Lib.hid (HB6.out.grown hg9 HB6.out.size (fun r e => (HoL6.out.lt r e).1)); have HG9 := Lib.hid hg9; clear hvs hown9 hg9)
      go_ret
      exact rounds_end HGl.out HarG6.out Hvs.out HoL6.out Hown9.out HG9.out HB9.out

end Go.Proofs.Ytjboamhjfncgdaa
