/-
  The model's l4Least.
-/
import Derived.Test.YtmbdggakahbciaaSvS0
namespace Go.Proofs.Ytmbdggakahbciaa
open Go.RowKit

set_option maxRecDepth 100000 in
set_option maxHeartbeats 1500000 in
theorem l4Least_c (L Nd : List Spr) (hB : bothB L Nd = true) (A0 : Option Addr) (c0 : Nat) (A1 : Option Addr) (c1 : Nat) : ∀ (j : Nat) (r : List Int) (A2 : Option Addr) (c2 : Nat) (w : World), r.length + j = Nd.length → idx5 L.length r → ArgZ w A0 c0 L → ArgZ w A1 c1 Nd → Arg w A2 c2 r →
    Calls Try.prog 59 #[.slice A0 L.length c0, .slice A1 Nd.length c1, .slice A2 r.length c2] w (RetB (.int .i64 (lw L Nd r)) w)
  | 0, r, A2, c2, w, hj, hx, h0, h1, h2 => by
    have hl := h2.len
    have g0 : (r.length : Int) = (Nd.length : Int) := by omega
    have He := Lib.hid (lw_end (L := L) (Nd := Nd) (r := r) (by omega))
    clear h0 h1 h2 hx
    go_enter Try.func59, Try.ntmps59
    go_wp2
    go_ret
    exact ⟨by rw [He.out]; rfl, Below.refl _ _⟩
  | j + 1, r, A2, c2, w, hj, hx, h0, h1, h2 => by
    obtain ⟨i0, hi, hz0, hz1, hz2⟩ := info_parts intInf
    have hl := h2.len
    obtain ⟨hbL, hbN⟩ := bothB_true.1 hB
    have hn10 := (sprB_true.1 hbL).1
    have hn5 := (sprB_true.1 hbN).1
    have hr : r.length < Nd.length := by omega
    have g0 : ¬ (r.length : Int) = (Nd.length : Int) := by omega
    have g00 : (r.length : Int) < (Nd.length : Int) := by omega
    have gb : ((r.length : Int) == (Nd.length : Int)) = false := beq_false_of_ne g0
    have IH := Lib.hid (l4Least_c L Nd hB A0 c0 A1 c1 j)
    have H0 := Lib.hid h0
    have H1 := Lib.hid h1
    have H2 := Lib.hid h2
    have Hx := Lib.hid hx
    have HbL := Lib.hid hbL
    have HbN := Lib.hid hbN
    clear h0 h1 h2 hx hbL hbN
    go_enter Try.func59, Try.ntmps59
    go_wp2
    go_loopw [8, 9] (fun q i wr => ∃ k : Nat, k ≤ L.length ∧ i = .int .i64 k ∧ q = .int .i64 (lwTo L Nd r k) ∧ Below w.heap.size w wr) (fun _ i _ => L.length - (intOf i).toNat)
    case atStart => exact ⟨0, Nat.zero_le _, rfl, rfl, Below.refl _ _⟩
    case round =>
      obtain ⟨k, hk, rfl, rfl, hb⟩ := hrel
      have Hb := Lib.hid hb
      clear hb
      by_cases hlt : k < L.length
      · have a0 := H0.out.go Hb.out
        have a1 := H1.out.go Hb.out
        have a2 := H2.out.go Hb.out
        have Hgo := Lib.hid (fun (W : World) (h : Below wr.heap.size wr W) => And.intro (a0.go h) (And.intro (a1.go h) (a2.go h)))
        obtain ⟨b0, off0, rfl, _, hbw0, he0, he1⟩ := a0.rd.at_ hlt
        obtain ⟨b1, off1, rfl, _, hbw1, hd0, hd1⟩ := a1.rd.at_ hr
        have hsf := sf_of (L := L) (Nd := Nd) (r := r) (k := k) rfl rfl
        have hdm := (sprB_at HbN.out hr).1
        have hsm := (sprB_at HbL.out hlt).1
        have hcd := lwTo_bd HbL.out HbN.out hr Hx.out hk
        have Hno := Lib.hid (fun h : sf L Nd r (k : Int) = false => lwTo_no h)
        have Hy := Lib.hid (fun h : sf L Nd r (k : Int) = true => lwTo_yes hr h)
        obtain ⟨q, hq⟩ : ∃ q, lwTo L Nd r k = q := ⟨_, rfl⟩
        rw [hq] at hcd Hno Hy ⊢
        obtain ⟨q1, q2⟩ := hcd
        obtain ⟨s, hs⟩ : ∃ s, sprAt L k = s := ⟨_, rfl⟩
        obtain ⟨d, hd⟩ : ∃ d, sprAt Nd r.length = d := ⟨_, rfl⟩
        rw [hs, hd] at hsf
        rw [hs, hd] at Hy
        rw [hs] at he0 he1 hsm
        rw [hd] at hd0 hd1 hdm
        have g1 : (k : Int) < (L.length : Int) := by omega
        have Hhas := Lib.hid (fun (W : World) (hb : Below wr.heap.size wr W) => l4Has_c A2 c2 r (k : Int) W (a2.go hb))
        have Hdr := Lib.hid (below_drewN (Below.refl wr.heap.size wr) 1)
        have pk1 := And.intro he0 (And.intro he1 (And.intro hd0 hd1))
        have Hpk := Lib.hid (fun (w2 : World) (h : Below wr.drew.heap.size wr.drew w2) => And.intro (below_cell (x := ⟨b0, off0 + k * 2, none⟩) h hbw0 he0) (And.intro (below_cell (x := ⟨b0, off0 + k * 2 + 1, none⟩) h hbw0 he1) (And.intro (below_cell (x := ⟨b1, off1 + r.length * 2, none⟩) h hbw1 hd0) (below_cell (x := ⟨b1, off1 + r.length * 2 + 1, none⟩) h hbw1 hd1))))
        clear hs hd hq a0 a1 a2
        by_cases hm : (k : Int) ∈ r
        · rw [decide_eq_true hm, Bool.not_true, Bool.and_false] at hsf
          have Hm := Lib.hid (decide_eq_true hm)
          have Hn := Lib.hid (Hno.out hsf)
          clear hm hsf pk1
          go_wp2
          go_quiet (first
            | (go_at_call 55; refine Calls.quiet_of_same (v := .bool true) ((Hhas.out _ (below_drewN (Below.refl _ _) _)).mono ?_); rintro e w' ⟨rfl, rfl⟩; exact ⟨by rw [Hm.out], rfl⟩)
            | fail)
          go_wp2
          go_roundw
          case rel => exact ⟨k + 1, by omega, by go_num, by rw [Hn.out], below_drewN Hb.out nq⟩
          case measure => simp [intOf]; omega
        · rw [decide_eq_false hm, Bool.not_false, Bool.and_true] at hsf
          have Hm := Lib.hid (decide_eq_false hm)
          clear hm
          cases e2 : srvB s d
          · have Hn := Lib.hid (Hno.out (hsf.trans e2))
            have E2 := Lib.hid e2
            clear e2 hsf
            go_wp2
            go_region_held3 (fun w9 => w9.cell? ⟨b0, off0 + k * 2, none⟩ = some (.int .i64 s.m) ∧ w9.cell? ⟨b0, off0 + k * 2 + 1, none⟩ = some (.int .i64 s.k) ∧ w9.cell? ⟨b1, off1 + r.length * 2, none⟩ = some (.int .i64 d.m) ∧ w9.cell? ⟨b1, off1 + r.length * 2 + 1, none⟩ = some (.int .i64 d.k)) (first | exact pk2 | exact pk1)
              (first
              | (go_at_call 55; refine (Hhas.out _ Hdr.out).mono ?_; rintro e w' ⟨rfl, rfl⟩; rw [Hm.out])
              | (go_at_call 56; refine (l4Serves_c s d _).mono ?_; rintro e w2 ⟨rfl, hb2⟩; rw [E2.out]; have pk2 := Hpk.out _ hb2; have Hb2 := Lib.hid hb2; clear hb2)
              | fail)
            all_goals
              go_wp2
              go_roundw
              case rel => exact ⟨k + 1, by omega, by go_num, by rw [Hn.out], below_step (below_drewN Hb.out 1) Hb2.out⟩
              case measure => simp [intOf]; omega
          · have hsft := hsf.trans e2
            have hn1 := Hy.out hsft
            obtain ⟨r', hr'⟩ : ∃ r', r ++ [(k : Int)] = r' := ⟨_, rfl⟩
            have hl' : r'.length = r.length + 1 := by rw [← hr']; simp
            have hxr : idx5 L.length r' := by rw [← hr']; exact idx5_snoc Hx.out hlt
            have ihr := fun (A3 : Option Addr) (c3 : Nat) (W : World) => IH.out r' A3 c3 W (by omega) hxr
            rw [hr'] at hn1
            rw [hl'] at ihr
            have hcm := lw_bd (r := r') HbL.out HbN.out (by omega) hxr
            obtain ⟨m, hm2⟩ : ∃ m, lw L Nd r' = m := ⟨_, rfl⟩
            rw [hm2] at hcm hn1 ihr
            obtain ⟨m1, m2⟩ := hcm
            have Hn := Lib.hid hn1
            have Ihr := Lib.hid ihr
            have Hr' := Lib.hid hr'
            have E2 := Lib.hid e2
            clear e2 hsf hsft hn1 ihr hr' hm2 hxr
            go_wp2
            go_region_held3 (fun w9 => w9.cell? ⟨b0, off0 + k * 2, none⟩ = some (.int .i64 s.m) ∧ w9.cell? ⟨b0, off0 + k * 2 + 1, none⟩ = some (.int .i64 s.k) ∧ w9.cell? ⟨b1, off1 + r.length * 2, none⟩ = some (.int .i64 d.m) ∧ w9.cell? ⟨b1, off1 + r.length * 2 + 1, none⟩ = some (.int .i64 d.k)) (first | exact pk2 | exact pk1)
              (first
              | (go_at_call 55; refine (Hhas.out _ Hdr.out).mono ?_; rintro e w' ⟨rfl, rfl⟩; rw [Hm.out])
              | (go_at_call 56; refine (l4Serves_c s d _).mono ?_; rintro e w2 ⟨rfl, hb2⟩; rw [E2.out]; have pk2 := Hpk.out _ hb2; have Hb2 := Lib.hid hb2; clear hb2)
              | fail)
            all_goals
              go_wp2_with (at_builtin; first
                | (refine wpList_append_ints rfl (.tmp 41) (.tmp 42) 36 rfl w2.heap.size 3 i0 (.int .i64 0) Try.underlying36 hi hz0 hz1 hz2 rfl (.slice (some ⟨w2.heap.size, 0, none⟩) 0 0) [] rfl (own_none w2 _) A2 c2 r rfl (Hgo.out _ (below_step Hdr.out (Hb2.out.alloc Hb2.out.size _))).2.2 (by simp; omega) (by simp) ?_; intro v1 w3 hown3 hg3; have H3 := Lib.hid (next1 hown3 hg3); clear hown3 hg3)
                | (refine wpList_append_ints rfl (.tmp 43) (.tmp 45) 36 rfl w2.heap.size 3 i0 (.int .i64 0) Try.underlying36 hi hz0 hz1 hz2 rfl v1 r rfl (H3.out.1.alloc _) (some ⟨w3.heap.size, 0, none⟩) 1 [(k : Int)] rfl (arg_one w3 (k : Int) _) (by simp; omega) (by simp; have := H3.out.2.size; omega) ?_; intro v2 w4 hown4 hg4; obtain ⟨A3, c3, rfl, ra4, ro4, rb4⟩ := next2 H3.out Hr'.out (by omega) hown4 hg4; have Ha4 := Lib.hid ra4; have Hb4 := Lib.hid rb4; clear hown4 hg4 ra4 ro4 rb4))
              have hw4 := below_step (below_step Hdr.out Hb2.out) Hb4.out
              have hcs := Hgo.out _ hw4
              refine (Ihr.out A3 c3 w4 hcs.1 hcs.2.1 Ha4.out).mono ?_
              rintro e w5 ⟨rfl, hb5⟩
              have hw5 := below_step hw4 hb5
              obtain ⟨he0', he1', hd0', hd1'⟩ := Hpk.out w5 (below_step (below_step Hb2.out Hb4.out) hb5)
              have Hw5 := Lib.hid hw5
              have q4 : -50 ≤ s.m - d.m + m ∧ s.m - d.m + m ≤ 300 := by omega
              obtain ⟨q5, q6⟩ := q4
              clear hb5 hw4 hw5 hcs he0 he1 hd0 hd1 pk1 pk2
              by_cases x1 : 0 ≤ m <;> by_cases x2 : q < 0 <;> by_cases x3 : s.m - d.m + m < q
              all_goals
                go_wp2
                go_quiet (fail)
                go_wp2
                go_roundw
                case rel => exact ⟨k + 1, by omega, by go_num, by first | rw [Hn.out, if_pos (by omega)] | rw [Hn.out, if_neg (by omega)], below_drewN (below_step Hb.out Hw5.out) nq⟩
                case measure => simp [intOf]; omega
      · obtain rfl : k = L.length := by omega
        have He := Lib.hid (lwTo_all (L := L) hr)
        go_wp2
        go_ret
        exact ⟨by rw [← He.out]; rfl, Hb.out⟩

end Go.Proofs.Ytmbdggakahbciaa
