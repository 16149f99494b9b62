/-
  The model's l4Many and l4Least, and ServeMany and ServeCan of the model.
-/
import Derived.Test.YtkicifkigbciaaaAppI
namespace Go.Proofs.Ytkicifkigbciaaa
open Go.RowKit

theorem ext_card (f : List Int → Int → Bool) (n : Nat) (r : List Int) : (ext f n r).length ≤ n := by
  unfold ext
  rw [List.length_map]
  have := List.length_filter_le (fun (i : Nat) => f r (i : Int)) (List.range n)
  simpa using this
theorem flat_card {α β : Type} (g : α → List β) (m : Nat) : ∀ l : List α, (∀ x ∈ l, (g x).length ≤ m) → (l.flatMap g).length ≤ l.length * m
  | [], _ => by simp
  | x :: t, h => by
    have h1 := flat_card g m t (fun y hy => h y (List.mem_cons_of_mem _ hy))
    have h2 := h x (by simp)
    rw [List.flatMap_cons, List.length_append, List.length_cons, Nat.succ_mul]
    omega
theorem fromR_card (f : List Int → Int → Bool) (n : Nat) : ∀ (k : Nat) (r : List Int), (fromR f n k r).length ≤ n ^ k
  | 0, r => by simp [fromR]
  | k + 1, r => by
    rw [fromR]
    refine Nat.le_trans (flat_card _ (n ^ k) _ (fun x _ => fromR_card f n k x)) ?_
    rw [Nat.pow_succ, Nat.mul_comm (n ^ k) n]
    exact Nat.mul_le_mul_right _ (ext_card f n r)
theorem fromS_card {L Nd : List Spr} {r : List Int} (hL : L.length ≤ 10) (hN : Nd.length ≤ 5) : (fromS L Nd r).length ≤ 100000 := by
  unfold fromS
  refine Nat.le_trans (fromR_card _ _ _ _) ?_
  refine Nat.le_trans (Nat.pow_le_pow_left hL _) ?_
  exact Nat.le_trans (Nat.pow_le_pow_right (by omega) (show Nd.length - r.length ≤ 5 by omega)) (by decide)
theorem preS_card {L Nd : List Spr} {r : List Int} {k : Nat} (hL : L.length ≤ 10) (hN : Nd.length ≤ 5) (hr : r.length < Nd.length) (hk : k ≤ L.length) : (preS L Nd r k).length ≤ 100000 := by
  obtain ⟨post, e⟩ := preS_rest (L := L) (Nd := Nd) (r := r) (L.length - k) k (by omega)
  have h1 := fromS_card (L := L) (Nd := Nd) (r := r) hL hN
  rw [← preS_all hr, e, List.length_append] at h1
  omega
def idx5 (n : Nat) (r : List Int) : Prop := ∀ i ∈ r, 0 ≤ i ∧ i < (n : Int)
theorem idx5_snoc {n : Nat} {r : List Int} {i : Nat} (h : idx5 n r) (hi : i < n) : idx5 n (r ++ [(i : Int)]) := fun j hj => by
  rcases List.mem_append.1 hj with h1 | h1
  · exact h j h1
  · simp at h1; omega
theorem sf_of {L Nd : List Spr} {r : List Int} {k : Nat} {s d : Spr} (h1 : sprAt L k = s) (h2 : sprAt Nd r.length = d) : sf L Nd r (k : Int) = (srvB s d && !(decide ((k : Int) ∈ r))) := by
  unfold sf
  rw [Int.toNat_natCast, h1, h2]

set_option maxRecDepth 100000 in
set_option maxHeartbeats 1500000 in
theorem l4Many_c (L Nd : List Spr) (hB : bothB L Nd = true) (A0 : Option Addr) (c0 : Nat) (A1 : Option Addr) (c1 : Nat) : ∀ (j : Nat) (r : List Int) (A2 : Option Addr) (c2 : Nat) (w : World), r.length + j = Nd.length → idx5 L.length r → ArgZ w A0 c0 L → ArgZ w A1 c1 Nd → Arg w A2 c2 r →
    Calls Try.prog 71 #[.slice A0 L.length c0, .slice A1 Nd.length c1, .slice A2 r.length c2] w (RetB (.int .i64 ((fromS L Nd r).length : Int)) w)
  | 0, r, A2, c2, w, hj, hx, h0, h1, h2 => by
    have hl := h2.len
    have g0 : (r.length : Int) = (Nd.length : Int) := by omega
    have He := Lib.hid (fromS_end (L := L) (Nd := Nd) (r := r) (by omega))
    clear h0 h1 h2 hx
    go_enter Try.func71, Try.ntmps71
    go_wp2
    go_ret
    exact ⟨by rw [He.out]; rfl, Below.refl _ _⟩
  | j + 1, r, A2, c2, w, hj, hx, h0, h1, h2 => by
    obtain ⟨i0, hi, hz0, hz1, hz2⟩ := info_parts intInf
    have hl := h2.len
    obtain ⟨hbL, hbN⟩ := bothB_true.1 hB
    have hn10 := (sprB_true.1 hbL).1
    have hn5 := (sprB_true.1 hbN).1
    have hr : r.length < Nd.length := by omega
    have g0 : ¬ (r.length : Int) = (Nd.length : Int) := by omega
    have g00 : (r.length : Int) < (Nd.length : Int) := by omega
    have gb : ((r.length : Int) == (Nd.length : Int)) = false := beq_false_of_ne g0
    have IH := Lib.hid (l4Many_c L Nd hB A0 c0 A1 c1 j)
    have H0 := Lib.hid h0
    have H1 := Lib.hid h1
    have H2 := Lib.hid h2
    have Hx := Lib.hid hx
    have HbL := Lib.hid hbL
    have HbN := Lib.hid hbN
    clear h0 h1 h2 hx hbL hbN
    go_enter Try.func71, Try.ntmps71
    go_wp2
    go_loopw [8, 9] (fun q i wr => ∃ k : Nat, k ≤ L.length ∧ i = .int .i64 k ∧ q = .int .i64 ((preS L Nd r k).length : Int) ∧ Below w.heap.size w wr) (fun _ i _ => L.length - (intOf i).toNat)
    case atStart => exact ⟨0, Nat.zero_le _, rfl, rfl, Below.refl _ _⟩
    case round =>
      obtain ⟨k, hk, rfl, rfl, hb⟩ := hrel
      have Hb := Lib.hid hb
      clear hb
      by_cases hlt : k < L.length
      · have a0 := H0.out.go Hb.out
        have a1 := H1.out.go Hb.out
        have a2 := H2.out.go Hb.out
        have Hgo := Lib.hid (fun (W : World) (h : Below wr.heap.size wr W) => And.intro (a0.go h) (And.intro (a1.go h) (a2.go h)))
        obtain ⟨b0, off0, rfl, _, hbw0, he0, he1⟩ := a0.rd.at_ hlt
        obtain ⟨b1, off1, rfl, _, hbw1, hd0, hd1⟩ := a1.rd.at_ hr
        have hsf := sf_of (L := L) (Nd := Nd) (r := r) (k := k) rfl rfl
        have hdm := (sprB_at HbN.out hr).1
        have hsm := (sprB_at HbL.out hlt).1
        have hcd := preS_card hn10 hn5 hr hk
        have Hno := Lib.hid (fun h : sf L Nd r (k : Int) = false => congrArg List.length (preS_no h))
        have Hy := Lib.hid (fun h : sf L Nd r (k : Int) = true => fromS_length h)
        obtain ⟨q, hq⟩ : ∃ q, (preS L Nd r k).length = q := ⟨_, rfl⟩
        rw [hq] at hcd Hno Hy ⊢
        have q3 : (q : Int) ≤ 100000 := by omega
        obtain ⟨s, hs⟩ : ∃ s, sprAt L k = s := ⟨_, rfl⟩
        obtain ⟨d, hd⟩ : ∃ d, sprAt Nd r.length = d := ⟨_, rfl⟩
        rw [hs, hd] at hsf
        
        rw [hs] at he0 he1 hsm
        rw [hd] at hd0 hd1 hdm
        have g1 : (k : Int) < (L.length : Int) := by omega
        have Hhas := Lib.hid (fun (W : World) (hb : Below wr.heap.size wr W) => l4Has_c A2 c2 r (k : Int) W (a2.go hb))
        have Hdr := Lib.hid (below_drewN (Below.refl wr.heap.size wr) 1)
        have pk1 := And.intro he0 (And.intro he1 (And.intro hd0 hd1))
        have Hpk := Lib.hid (fun (w2 : World) (h : Below wr.drew.heap.size wr.drew w2) => And.intro (below_cell (x := ⟨b0, off0 + k * 2, none⟩) h hbw0 he0) (And.intro (below_cell (x := ⟨b0, off0 + k * 2 + 1, none⟩) h hbw0 he1) (And.intro (below_cell (x := ⟨b1, off1 + r.length * 2, none⟩) h hbw1 hd0) (below_cell (x := ⟨b1, off1 + r.length * 2 + 1, none⟩) h hbw1 hd1))))
        clear hs hd hq a0 a1 a2
        by_cases hm : (k : Int) ∈ r
        · rw [decide_eq_true hm, Bool.not_true, Bool.and_false] at hsf
          have Hm := Lib.hid (decide_eq_true hm)
          have Hn := Lib.hid (Hno.out hsf)
          clear hm hsf pk1
          go_wp2
          go_quiet (first
            | (go_at_call 84; refine Calls.quiet_of_same (v := .bool true) ((Hhas.out _ (below_drewN (Below.refl _ _) _)).mono ?_); rintro e w' ⟨rfl, rfl⟩; exact ⟨by rw [Hm.out], rfl⟩)
            | fail)
          go_wp2
          go_roundw
          case rel => exact ⟨k + 1, by omega, by go_num, by rw [Hn.out], below_drewN Hb.out nq⟩
          case measure => simp [intOf]; omega
        · rw [decide_eq_false hm, Bool.not_false, Bool.and_true] at hsf
          have Hm := Lib.hid (decide_eq_false hm)
          clear hm
          cases e2 : srvB s d
          · have Hn := Lib.hid (Hno.out (hsf.trans e2))
            have E2 := Lib.hid e2
            clear e2 hsf
            go_wp2
            go_region_held3 (fun w9 => w9.cell? ⟨b0, off0 + k * 2, none⟩ = some (.int .i64 s.m) ∧ w9.cell? ⟨b0, off0 + k * 2 + 1, none⟩ = some (.int .i64 s.k) ∧ w9.cell? ⟨b1, off1 + r.length * 2, none⟩ = some (.int .i64 d.m) ∧ w9.cell? ⟨b1, off1 + r.length * 2 + 1, none⟩ = some (.int .i64 d.k)) (first | exact pk2 | exact pk1)
              (first
              | (go_at_call 84; refine (Hhas.out _ Hdr.out).mono ?_; rintro e w' ⟨rfl, rfl⟩; rw [Hm.out])
              | (go_at_call 61; refine (l4Serves_c s d _).mono ?_; rintro e w2 ⟨rfl, hb2⟩; rw [E2.out]; have pk2 := Hpk.out _ hb2; have Hb2 := Lib.hid hb2; clear hb2)
              | fail)
            all_goals
              go_wp2
              go_roundw
              case rel => exact ⟨k + 1, by omega, by go_num, by rw [Hn.out], below_step (below_drewN Hb.out 1) Hb2.out⟩
              case measure => simp [intOf]; omega
          · have hsft := hsf.trans e2
            have hn1 := Hy.out hsft
            obtain ⟨r', hr'⟩ : ∃ r', r ++ [(k : Int)] = r' := ⟨_, rfl⟩
            have hl' : r'.length = r.length + 1 := by rw [← hr']; simp
            have hxr : idx5 L.length r' := by rw [← hr']; exact idx5_snoc Hx.out hlt
            have ihr := fun (A3 : Option Addr) (c3 : Nat) (W : World) => IH.out r' A3 c3 W (by omega) hxr
            rw [hr'] at hn1
            rw [hl'] at ihr
            have hcm := fromS_card (L := L) (Nd := Nd) (r := r') hn10 hn5
            obtain ⟨m, hm2⟩ : ∃ m, (fromS L Nd r').length = m := ⟨_, rfl⟩
            rw [hm2] at hcm hn1 ihr
            have m3 : (m : Int) ≤ 100000 := by omega
            have Hn := Lib.hid hn1
            have Ihr := Lib.hid ihr
            have Hr' := Lib.hid hr'
            have E2 := Lib.hid e2
            clear e2 hsf hsft hn1 ihr hr' hm2 hxr
            go_wp2
            go_region_held3 (fun w9 => w9.cell? ⟨b0, off0 + k * 2, none⟩ = some (.int .i64 s.m) ∧ w9.cell? ⟨b0, off0 + k * 2 + 1, none⟩ = some (.int .i64 s.k) ∧ w9.cell? ⟨b1, off1 + r.length * 2, none⟩ = some (.int .i64 d.m) ∧ w9.cell? ⟨b1, off1 + r.length * 2 + 1, none⟩ = some (.int .i64 d.k)) (first | exact pk2 | exact pk1)
              (first
              | (go_at_call 84; refine (Hhas.out _ Hdr.out).mono ?_; rintro e w' ⟨rfl, rfl⟩; rw [Hm.out])
              | (go_at_call 61; refine (l4Serves_c s d _).mono ?_; rintro e w2 ⟨rfl, hb2⟩; rw [E2.out]; have pk2 := Hpk.out _ hb2; have Hb2 := Lib.hid hb2; clear hb2)
              | fail)
            all_goals
              go_wp2_with (at_builtin; first
                | (refine wpList_append_ints rfl (.tmp 40) (.tmp 41) 30 rfl w2.heap.size 3 i0 (.int .i64 0) Try.underlying30 hi hz0 hz1 hz2 rfl (.slice (some ⟨w2.heap.size, 0, none⟩) 0 0) [] rfl (own_none w2 _) A2 c2 r rfl (Hgo.out _ (below_step Hdr.out (Hb2.out.alloc Hb2.out.size _))).2.2 (by simp; omega) (by simp) ?_; intro v1 w3 hown3 hg3; have H3 := Lib.hid (next1 hown3 hg3); clear hown3 hg3)
                | (refine wpList_append_ints rfl (.tmp 42) (.tmp 44) 30 rfl w2.heap.size 3 i0 (.int .i64 0) Try.underlying30 hi hz0 hz1 hz2 rfl v1 r rfl (H3.out.1.alloc _) (some ⟨w3.heap.size, 0, none⟩) 1 [(k : Int)] rfl (arg_one w3 (k : Int) _) (by simp; omega) (by simp; have := H3.out.2.size; omega) ?_; intro v2 w4 hown4 hg4; obtain ⟨A3, c3, rfl, ra4, ro4, rb4⟩ := next2 H3.out Hr'.out (by omega) hown4 hg4; have Ha4 := Lib.hid ra4; have Hb4 := Lib.hid rb4; clear hown4 hg4 ra4 ro4 rb4))
              have hw4 := below_step (below_step Hdr.out Hb2.out) Hb4.out
              have hcs := Hgo.out _ hw4
              refine (Ihr.out A3 c3 w4 hcs.1 hcs.2.1 Ha4.out).mono ?_
              rintro e w5 ⟨rfl, hb5⟩
              have hw5 := below_step hw4 hb5
              have Hw5 := Lib.hid hw5
              clear hb5 hw4 hw5 hcs
              go_wp2
              go_roundw
              case rel => exact ⟨k + 1, by omega, by go_num, by rw [Hn.out, Int.natCast_add], below_step Hb.out Hw5.out⟩
              case measure => simp [intOf]; omega
      · obtain rfl : k = L.length := by omega
        have He := Lib.hid (preS_all (L := L) hr)
        go_wp2
        go_ret
        exact ⟨by rw [← He.out]; rfl, Hb.out⟩

end Go.Proofs.Ytkicifkigbciaaa
