/-
  ServeBest of the model.
-/
import Derived.Test.YtmbdggakahbciaaSvCS
namespace Go.Proofs.Ytmbdggakahbciaa
open Go.RowKit

theorem serve_some {L Nd : List Spr} (h : serveB L Nd = true) : ∃ x, bothB L Nd = true ∧ bst (sumZ L) (fromS L Nd []) = some x ∧ serveL L Nd = x := by
  unfold serveB serveG at h
  unfold serveL serveG
  cases hb : bothB L Nd with
  | false => rw [hb] at h; simp at h
  | true =>
    rw [hb, if_pos rfl, allS_from] at h
    rw [if_pos rfl, allS_from]
    obtain ⟨x, hx⟩ := Option.isSome_iff_exists.1 h
    exact ⟨x, rfl, hx, by rw [hx]; rfl⟩
theorem serve_none {L Nd : List Spr} (h : serveB L Nd = false) : serveL L Nd = [] := by
  unfold serveB at h
  unfold serveL
  cases hb : serveG L Nd with
  | none => rfl
  | some x => rw [hb] at h; cases h
theorem serve_end {L Nd : List Spr} {r x : List Int} (h : Nd.length ≤ r.length) (hx : bst (sumZ L) (fromS L Nd r) = some x) : r = x := by
  rw [fromS_end h] at hx
  simpa [bst, mrg] using hx

set_option maxRecDepth 100000 in
set_option maxHeartbeats 3000000 in
theorem specServeBest_b (A0 : Option Addr) (c0 : Nat) (L : List Spr) (A1 : Option Addr) (c1 : Nat) (Nd : List Spr) (w : World) (h0 : ArgZ w A0 c0 L) (h1 : ArgZ w A1 c1 Nd) :
    Calls Try.prog 29 #[.slice A0 L.length c0, .slice A1 Nd.length c1] w (RetS 3 (fun v => .tuple #[v, .bool (serveB L Nd)]) (serveL L Nd) w) := by
  obtain ⟨i0, hi, hz0, hz1, hz2⟩ := info_parts intInf
  have hbn := below_none w 3
  have hown := own_none w 3
  have H0 := Lib.hid (h0.go hbn)
  have H1 := Lib.hid (h1.go hbn)
  have Hbn := Lib.hid hbn
  have Hown := Lib.hid hown
  clear h0 h1 hbn hown
  go_enter Try.func29, Try.ntmps29
  go_wp2_with fail
  refine (specServeCan_b A0 c0 L A1 c1 Nd _ H0.out H1.out).mono ?_
  rintro e w1 ⟨rfl, hb1⟩
  have Hb1 := Lib.hid (below_step Hbn.out hb1)
  have Hown1 := Lib.hid (own_below Hown.out hb1)
  replace H0 := Lib.hid (H0.out.go hb1)
  replace H1 := Lib.hid (H1.out.go hb1)
  clear hb1
  cases hv : serveB L Nd
  · have Hn := Lib.hid (serve_none hv)
    have Hv := Lib.hid hv
    clear hv
    go_wp2
    go_ret2
    rw [Hn.out, Hv.out]
    exact RetS.mk (f := fun v => .tuple #[v, .bool false]) (by simp) Hown1.out Hb1.out
  obtain ⟨x, hB, hx0, hxl⟩ := serve_some hv
  obtain ⟨hbL, hbN⟩ := bothB_true.1 hB
  have hn10 := (sprB_true.1 hbL).1
  have hn5 := (sprB_true.1 hbN).1
  have Hv := Lib.hid hv
  have HB := Lib.hid hB
  have HbL := Lib.hid hbL
  have HbN := Lib.hid hbN
  have Hx0 := Lib.hid hx0
  have Hxl := Lib.hid hxl
  clear hv hB hbL hbN hx0 hxl
  go_wp2
  go_loopw [6, 7] (fun ov iv wr => ∃ (n : Nat) (r : List Int), n ≤ Nd.length ∧ r.length = n ∧ idx5 L.length r ∧ bst (sumZ L) (fromS L Nd r) = some x ∧ iv = .int .i64 n ∧ Ow 3 w.heap.size wr.heap.size wr ov r ∧ Below w.heap.size w wr ∧ Below w1.heap.size w1 wr) (fun _ iv _ => Nd.length - (intOf iv).toNat)
  case atStart => exact ⟨0, [], Nat.zero_le _, rfl, idx5_nil _, Hx0.out, rfl, Ow.of_own Hown1.out, Hb1.out, Below.refl _ _⟩
  case round =>
    obtain ⟨n, r, hn, hrn, hxr, hbx, rfl, ho, hb, hbw⟩ := hrel
    obtain ⟨W0, hW0⟩ : ∃ W0, W0 = wr := ⟨_, rfl⟩
    subst hW0
    obtain ⟨A2, c2, rfl, _, _, _⟩ := ho.form
    have harg := ho.arg (by omega) (Nat.le_refl _)
    by_cases hlt0 : n < Nd.length
    · have hr : r.length < Nd.length := by omega
      have g00 : (n : Int) < (Nd.length : Int) := by omega
      have hlw := lw_bd HbL.out HbN.out (Nat.le_of_lt hr) hxr
      have hpick := Lib.hid (fun (k : Nat) (hk : k < L.length) => pick_yes (k := k) hr hbx hk)
      have hpno := Lib.hid (fun (k : Nat) (hk : k < L.length) => pick_no (k := k) hr hbx hk)
      have hpsome := Lib.hid (fun h => pick_some hr hbx h)
      have hca := l4Least_c L Nd HB.out A0 c0 A1 c1 (Nd.length - r.length) r A2 c2 W0 (by omega) hxr (H0.out.go hbw) (H1.out.go hbw) harg
      have hsff := Lib.hid (fun (k : Nat) (s d : Spr) (h1 : sprAt L k = s) (h2 : sprAt Nd r.length = d) => sf_of h1 h2)
      rw [hrn] at hca hsff hpick hpno
      obtain ⟨l, hl⟩ : ∃ l, lw L Nd r = l := ⟨_, rfl⟩
      rw [hl] at hca hlw hpick hpno
      obtain ⟨l1, l2⟩ := hlw
      have Hca := Lib.hid hca
      have Ho := Lib.hid ho
      have Hb := Lib.hid hb
      have Hbw := Lib.hid hbw
      have Hxr := Lib.hid hxr
      have Harg := Lib.hid harg
      clear hca hbx ho hb hbw hl hxr harg
      go_wp2_with fail
      refine Hca.out.mono ?_
      rintro e W1 ⟨rfl, hbA⟩
      have HbA := Lib.hid hbA
      replace Ho := Lib.hid (Ho.out.below hbA (Nat.le_refl _))
      clear hbA Hca
      go_wp2
      go_loopw [6, 9] (fun ov kv wr => ∃ k : Nat, k ≤ L.length ∧ kv = .int .i64 k ∧ ov = .slice A2 n c2 ∧ (∀ z ∈ preS L Nd r k, sumZ L x < sumZ L z) ∧ Below W1.heap.size W1 wr) (fun _ kv _ => L.length - (intOf kv).toNat)
      case atStart => exact ⟨0, Nat.zero_le _, rfl, by first | rfl | rw [hrn], (by rw [preS_zero]; simp), Below.refl _ _⟩
      case round =>
        obtain ⟨k, hk, rfl, rfl, hp, hb⟩ := hrel
        have Hp := Lib.hid hp
        have Hbk := Lib.hid hb
        clear hp hb
        by_cases hlt : k < L.length
        · have hW := below_step HbA.out Hbk.out
          have a0 := H0.out.go (below_step Hbw.out hW)
          have a1 := H1.out.go (below_step Hbw.out hW)
          have a2 := Harg.out.go hW
          have Hgo := Lib.hid (fun (W : World) (h : Below wr.heap.size wr W) => And.intro (a0.go h) (And.intro (a1.go h) (a2.go h)))
          obtain ⟨b0, off0, rfl, _, hbw0, he0, he1⟩ := a0.rd.at_ hlt
          obtain ⟨b1, off1, rfl, _, hbw1, hd0, hd1⟩ := a1.rd.at_ hlt0
          have hdm := (sprB_at HbN.out hlt0).1
          have hsm := (sprB_at HbL.out hlt).1
          have hsf := fun s d h1 h2 => hsff.out k s d h1 h2
          have hpn := hpno.out k hlt Hp.out
          have hpy := hpick.out k hlt Hp.out
          obtain ⟨s, hs⟩ : ∃ s, sprAt L k = s := ⟨_, rfl⟩
          obtain ⟨d, hd⟩ : ∃ d, sprAt Nd n = d := ⟨_, rfl⟩
          replace hsf := hsf s d hs hd
          rw [hs] at he0 he1 hsm hpn hpy
          rw [hd] at hd0 hd1 hdm hpn hpy
          have g1 : (k : Int) < (L.length : Int) := by omega
          have hhas := fun (W : World) (hb : Below wr.heap.size wr W) => l4Has_c A2 c2 r (k : Int) W (a2.go hb)
          rw [hrn] at hhas
          have Hhas := Lib.hid hhas
          have Hpn := Lib.hid hpn
          have Hpy := Lib.hid hpy
          have Hdr := Lib.hid (below_drewN (Below.refl wr.heap.size wr) 1)
          have pk1 := And.intro he0 (And.intro he1 (And.intro hd0 hd1))
          have Hpk := Lib.hid (fun (w2 : World) (h : Below wr.drew.heap.size wr.drew w2) => And.intro (below_cell (x := ⟨b0, off0 + k * 2, none⟩) h hbw0 he0) (And.intro (below_cell (x := ⟨b0, off0 + k * 2 + 1, none⟩) h hbw0 he1) (And.intro (below_cell (x := ⟨b1, off1 + n * 2, none⟩) h hbw1 hd0) (below_cell (x := ⟨b1, off1 + n * 2 + 1, none⟩) h hbw1 hd1))))
          clear hs hd a0 a1 a2 hhas hpn hpy hW
          by_cases hm : (k : Int) ∈ r
          · rw [decide_eq_true hm, Bool.not_true, Bool.and_false] at hsf
            have Hm := Lib.hid (decide_eq_true hm)
            have Hn := Lib.hid (Hpn.out (.inl hsf))
            clear hm hsf pk1
            go_wp2
            go_quiet (first
              | (go_at_call 55; refine Calls.quiet_of_same (v := .bool true) ((Hhas.out _ (below_drewN (Below.refl _ _) _)).mono ?_); rintro e w' ⟨rfl, rfl⟩; exact ⟨by rw [Hm.out], rfl⟩)
              | fail)
            go_wp2
            go_roundw
            case rel => exact ⟨k + 1, by omega, by go_num, rfl, Hn.out, below_drewN Hbk.out nq⟩
            case measure => simp [intOf]; omega
          · rw [decide_eq_false hm, Bool.not_false, Bool.and_true] at hsf
            have Hm := Lib.hid (decide_eq_false hm)
            clear hm
            cases e2 : srvB s d
            · have Hn := Lib.hid (Hpn.out (.inl (hsf.trans e2)))
              have E2 := Lib.hid e2
              clear e2 hsf
              go_wp2
              go_region_held3 (fun w9 => w9.cell? ⟨b0, off0 + k * 2, none⟩ = some (.int .i64 s.m) ∧ w9.cell? ⟨b0, off0 + k * 2 + 1, none⟩ = some (.int .i64 s.k) ∧ w9.cell? ⟨b1, off1 + n * 2, none⟩ = some (.int .i64 d.m) ∧ w9.cell? ⟨b1, off1 + n * 2 + 1, none⟩ = some (.int .i64 d.k)) (first | exact pk2 | exact pk1)
                (first
                | (go_at_call 55; refine (Hhas.out _ Hdr.out).mono ?_; rintro e w' ⟨rfl, rfl⟩; rw [Hm.out])
                | (go_at_call 56; refine (l4Serves_c s d _).mono ?_; rintro e w2 ⟨rfl, hb2⟩; rw [E2.out]; have pk2 := Hpk.out _ hb2; have Hb2 := Lib.hid hb2; clear hb2)
                | fail)
              all_goals
                go_wp2
                go_roundw
                case rel => exact ⟨k + 1, by omega, by go_num, rfl, Hn.out, below_step (below_drewN Hbk.out 1) Hb2.out⟩
                case measure => simp [intOf]; omega
            · have hsft := hsf.trans e2
              obtain ⟨r', hr'⟩ : ∃ r', r ++ [(k : Int)] = r' := ⟨_, rfl⟩
              have hl' : r'.length = n + 1 := by rw [← hr']; simp [hrn]
              have hxr' : idx5 L.length r' := by rw [← hr']; exact idx5_snoc Hxr.out hlt
              have ihr := fun (A3 : Option Addr) (c3 : Nat) (W : World) => l4Least_c L Nd HB.out (some ⟨b0, off0, none⟩) c0 (some ⟨b1, off1, none⟩) c1 (Nd.length - r'.length) r' A3 c3 W (by omega) hxr'
              rw [hl'] at ihr
              have hpy2 := Hpy.out hsft
              have hpn2 := fun h => Hpn.out (.inr h)
              rw [hr'] at hpy2 hpn2
              have hcm := lw_bd (r := r') HbL.out HbN.out (by omega) hxr'
              obtain ⟨m, hm2⟩ : ∃ m, lw L Nd r' = m := ⟨_, rfl⟩
              rw [hm2] at hcm ihr hpy2 hpn2
              obtain ⟨m1, m2⟩ := hcm
              have Hpy2 := Lib.hid hpy2
              have Hpn2 := Lib.hid hpn2
              have Ihr := Lib.hid ihr
              have Hr' := Lib.hid hr'
              have Hxr' := Lib.hid hxr'
              have E2 := Lib.hid e2
              clear e2 hsf hsft ihr hr' hm2 hxr' hpy2 hpn2
              go_wp2
              go_region_held3 (fun w9 => w9.cell? ⟨b0, off0 + k * 2, none⟩ = some (.int .i64 s.m) ∧ w9.cell? ⟨b0, off0 + k * 2 + 1, none⟩ = some (.int .i64 s.k) ∧ w9.cell? ⟨b1, off1 + n * 2, none⟩ = some (.int .i64 d.m) ∧ w9.cell? ⟨b1, off1 + n * 2 + 1, none⟩ = some (.int .i64 d.k)) (first | exact pk2 | exact pk1)
                (first
                | (go_at_call 55; refine (Hhas.out _ Hdr.out).mono ?_; rintro e w' ⟨rfl, rfl⟩; rw [Hm.out])
                | (go_at_call 56; refine (l4Serves_c s d _).mono ?_; rintro e w2 ⟨rfl, hb2⟩; rw [E2.out]; have pk2 := Hpk.out _ hb2; have Hb2 := Lib.hid hb2; clear hb2)
                | fail)
              all_goals
                have ha2 := (Hgo.out _ (below_step Hdr.out (Hb2.out.alloc Hb2.out.size (.cells #[] 3)))).2.2
                go_wp2_with (at_builtin; first
                  | (refine wpList_append_ints rfl (.tmp 49) (.tmp 50) 36 rfl w2.heap.size 3 i0 (.int .i64 0) Try.underlying36 hi hz0 hz1 hz2 rfl (.slice (some ⟨w2.heap.size, 0, none⟩) 0 0) [] rfl (own_none w2 _) A2 c2 r (by rw [hrn]; rfl) ha2 (by simp; omega) (by simp) ?_; intro v1 w3 hown3 hg3; have H3 := Lib.hid (next1 hown3 hg3); clear hown3 hg3)
                  | (refine wpList_append_ints rfl (.tmp 51) (.tmp 53) 36 rfl w2.heap.size 3 i0 (.int .i64 0) Try.underlying36 hi hz0 hz1 hz2 rfl v1 r rfl (H3.out.1.alloc _) (some ⟨w3.heap.size, 0, none⟩) 1 [(k : Int)] rfl (arg_one w3 (k : Int) _) (by simp; omega) (by simp; have := H3.out.2.size; omega) ?_; intro v2 w4 hown4 hg4; obtain ⟨A3, c3, rfl, ra4, ro4, rb4⟩ := next2 H3.out Hr'.out (by omega) hown4 hg4; have Ha4 := Lib.hid ra4; have Hb4 := Lib.hid rb4; have Ho4 := Lib.hid ro4; clear hown4 hg4 ra4 ro4 rb4))
                have hw4 := below_step (below_step Hdr.out Hb2.out) Hb4.out
                have hcs := Hgo.out _ hw4
                refine (Ihr.out A3 c3 w4 hcs.1 hcs.2.1 Ha4.out).mono ?_
                rintro e w5 ⟨rfl, hb5⟩
                have hw5 := below_step hw4 hb5
                obtain ⟨he0', he1', hd0', hd1'⟩ := Hpk.out w5 (below_step (below_step Hb2.out Hb4.out) hb5)
                have Hw5 := Lib.hid hw5
                have Ho5 := Lib.hid (Ho4.out.go hb5 (Nat.le_refl _))
                have Hs5 := Lib.hid hb5.size
                have q4 : -50 ≤ s.m - d.m + m ∧ s.m - d.m + m ≤ 300 := by omega
                obtain ⟨q5, q6⟩ := q4
                clear hb5 hw4 hw5 hcs he0 he1 hd0 hd1 pk1 pk2
                by_cases x1 : 0 ≤ m
                · by_cases x2 : s.m - d.m + m = l
                  · have Hfin := Lib.hid (Hpy2.out x1 x2)
                    have hch := below_step (below_step HbA.out Hbk.out) Hw5.out
                    have hov := Ho5.out.more (lo' := w.heap.size) (hi' := w5.heap.size) (by have h1 := (below_step (below_step (below_step Hb.out HbA.out) Hbk.out) (below_step Hdr.out Hb2.out)).size; exact h1) Hs5.out
                    rw [hl'] at hov
                    have Hov := Lib.hid hov
                    have Hch := Lib.hid hch
                    clear hov hch
                    go_wp2
                    go_quiet (fail)
                    go_wp2
                    go_roundw
                    case rel => exact ⟨n + 1, r', by omega, hl', Hxr'.out, Hfin.out, by go_num, Hov.out, below_drewN (below_step Hb.out Hch.out) nq, below_drewN (below_step Hbw.out Hch.out) nq⟩
                    case measure => simp [intOf]; omega
                  · have Hn := Lib.hid (Hpn2.out (.inr x2))
                    go_wp2
                    go_quiet (fail)
                    go_wp2
                    go_roundw
                    case rel => exact ⟨k + 1, by omega, by go_num, rfl, Hn.out, below_drewN (below_step Hbk.out Hw5.out) nq⟩
                    case measure => simp [intOf]; omega
                · have Hn := Lib.hid (Hpn2.out (.inl (by omega)))
                  have x1d : decide (0 ≤ m) = false := decide_eq_false x1
                  go_wp2
                  go_quiet (fail)
                  go_wp2
                  go_roundw
                  case rel => exact ⟨k + 1, by omega, by go_num, rfl, Hn.out, below_drewN (below_step Hbk.out Hw5.out) nq⟩
                  case measure => simp [intOf]; omega
        · obtain rfl : k = L.length := by omega
          exact (hpsome.out Hp.out).elim
    · have hne : n = Nd.length := by omega
      have hrx : r = x := serve_end (by omega) hbx
      have g00 : ¬ (n : Int) < (Nd.length : Int) := by omega
      have Hfin := Lib.hid (show RetS 3 (fun v => .tuple #[v, .bool true]) (serveL L Nd) w (.returned (.tuple #[.slice A2 r.length c2, .bool true])) W0 from ⟨A2, c2, by rw [Hxl.out, ← hrx], by rw [Hxl.out, ← hrx]; exact harg, by rw [Hxl.out, ← hrx]; exact ho, hb⟩)
      clear hbx ho hb hbw harg hrx hne hrn hxr
      go_wp2
      go_ret2
      rw [Hv.out]
      exact Hfin.out

end Go.Proofs.Ytmbdggakahbciaa
