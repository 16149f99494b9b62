/-
  NetTree of both.
-/
import Derived.Test.YtbnpglljloaclaaTfX
import Derived.Test.YtbnpglljloaclaaTfZ
import Derived.Test.YtbnpglljloaclaaApI0
namespace Go.Proofs.Ytbnpglljloaclaa
open Go.RowKit

/-- between station a and the ones behind it, up to b -/
def trIn (n : Int) (N : List Lin) (a b : Nat) : List Int := (List.range (b - (a + 1))).map (fun i => mostV n N (a : Int) ((a + 1 + i : Nat) : Int))
def trTo (n : Int) (N : List Lin) (m : Nat) : Nat → List Int
  | 0 => []
  | k + 1 => trTo n N m k ++ trIn n N k m
/-- THE TRAFFICS OF ALL PAIRS -/
def treeV (n : Int) (N : List Lin) : List Int := if netB n N then trTo n N n.toNat n.toNat else []
section
variable {n : Int} {N : List Lin}
theorem trIn_zero (a : Nat) : trIn n N a (a + 1) = [] := by simp [trIn]
theorem trIn_succ {a b : Nat} (h : a + 1 ≤ b) : trIn n N a (b + 1) = trIn n N a b ++ [mostV n N (a : Int) (b : Int)] := by
  unfold trIn
  rw [show b + 1 - (a + 1) = (b - (a + 1)) + 1 by omega, List.range_succ, List.map_append, List.map_cons, List.map_nil, show a + 1 + (b - (a + 1)) = b by omega]
theorem trIn_len (a b : Nat) : (trIn n N a b).length = b - (a + 1) := by simp [trIn]
theorem trTo_len {m : Nat} (h : m ≤ 6) : ∀ k, (trTo n N m k).length ≤ 6 * k
  | 0 => by simp [trTo]
  | k + 1 => by
    have := trTo_len h k
    rw [trTo, List.length_append, trIn_len]
    omega
theorem trTo_succ (m k : Nat) : trTo n N m k ++ trIn n N k m = trTo n N m (k + 1) := rfl
theorem tree_no (h : netB n N = false) : treeV n N = [] := by unfold treeV; rw [h]; rfl
theorem tree_yes (h : netB n N = true) : treeV n N = trTo n N n.toNat n.toNat := by unfold treeV; rw [h]; rfl
end

set_option maxRecDepth 100000 in
set_option maxHeartbeats 4000000 in
theorem implNetTree_b (n : Int) (A : Option Addr) (c : Nat) (ss : List Lin) (w : World) (ha : ArgL w A c ss) :
    Calls Try.prog 27 #[.int .i64 n, .slice A ss.length c] w (RetS 3 (fun v => .tuple #[v, .bool (netB n ss)]) (treeV n ss) w) := by
  obtain ⟨i0, hi, hz0, hz1, hz2⟩ := info_parts intInf
  have HA := Lib.hid ha
  clear ha
  go_enter Try.func27, Try.ntmps27
  go_wp2_with fail
  refine (implNetValid_b _ _ _ _ _ HA.out).mono ?_
  rintro e w1 ⟨rfl, hb1⟩
  have Hb1 := Lib.hid hb1
  clear hb1
  cases e1 : netB n ss
  · have N := Lib.hid (tree_no e1)
    have E1 := Lib.hid e1
    clear e1
    go_wp2
    go_ret2
    rw [N.out, E1.out]
    exact RetS.nil (f := fun v => .tuple #[v, .bool false]) Hb1.out
  have E1 := Lib.hid e1
  have N := Lib.hid (tree_yes e1)
  obtain ⟨h2, h6⟩ := (netB_true.1 e1).1
  clear e1
  obtain ⟨m, rfl⟩ : ∃ m : Nat, n = (m : Int) := ⟨n.toNat, by omega⟩
  rw [Int.toNat_natCast] at N
  go_wp2
  go_loopw [6, 14] (fun lv i wr => ∃ (k : Nat) (xs : List Int) (sv : Value), k ≤ m ∧ i = .int .i64 k ∧ lv = sv ∧ xs = trTo (m : Int) ss m k ∧ wr.ownsRow w.heap.size 3 1 sv xs.length (xs.map (Value.int .i64)) ∧ Below w.heap.size w wr) (fun _ i _ => m - (intOf i).toNat)
  case atStart => exact ⟨0, [], _, Nat.zero_le _, rfl, rfl, rfl, World.ownsRow_nil _ _ _ _, Hb1.out⟩
  case round =>
    obtain ⟨k, xs, sv, hk, rfl, rfl, hx, ho, hb⟩ := hrel
    have hxl : xs.length ≤ 6 * k := by rw [hx]; exact trTo_len (by omega) _
    have Hx := Lib.hid hx
    have Ho := Lib.hid ho
    have Hb := Lib.hid hb
    clear hx ho hb
    by_cases hlt : k < m
    · have g1 : (k : Int) < (m : Int) := by omega
      have q1 : IntKind.i64.wrap ((k : Int) + 1) = (k : Int) + 1 := IntWalk.i64_in _ (by omega)
      go_wp2
      go_loopw [6, 8] (fun lv i wr => ∃ (b : Nat) (ys : List Int) (sv : Value), k + 1 ≤ b ∧ b ≤ m ∧ i = .int .i64 b ∧ lv = sv ∧ ys = trTo (m : Int) ss m k ++ trIn (m : Int) ss k b ∧ wr.ownsRow w.heap.size 3 1 sv ys.length (ys.map (Value.int .i64)) ∧ Below w.heap.size w wr) (fun _ i _ => m - (intOf i).toNat)
      case atStart => exact ⟨k + 1, xs, _, Nat.le_refl _, by omega, by go_num, rfl, by rw [trIn_zero, List.append_nil, Hx.out], Ho.out, Hb.out⟩
      case round =>
        obtain ⟨b, ys, sv, hb1, hb2, rfl, rfl, hy, hoy, hby⟩ := hrel
        have hyl : ys.length ≤ 6 * k + 6 := by rw [hy, List.length_append, trIn_len, ← Hx.out]; omega
        have Hy := Lib.hid hy
        have Hoy := Lib.hid hoy
        have Hby := Lib.hid hby
        clear hy hoy hby
        by_cases hlt2 : b < m
        · have g2 : (b : Int) < (m : Int) := by omega
          have Hs := Lib.hid (trIn_succ (n := (m : Int)) (N := ss) hb1)
          have Hm := Lib.hid (fun (W : World) (h : Below w.heap.size w W) => implTrafficMost_b (m : Int) A c ss (k : Int) (b : Int) W (HA.out.go h))
          obtain ⟨y, hyy⟩ : ∃ y, mostV (m : Int) ss (k : Int) (b : Int) = y := ⟨_, rfl⟩
          rw [hyy] at Hs Hm
          clear hyy
          go_wp2_with fail
          refine (Hm.out _ Hby.out).mono ?_
          rintro e w4 ⟨rfl, hb4⟩
          have Ho4 := Lib.hid (own_below Hoy.out hb4)
          have Hb4 := Lib.hid (below_step Hby.out hb4)
          have hsz4 := Hb4.out.size
          clear hb4
          go_wp2_with (at_builtin; refine wpList_append_ints rfl (.tmp 24) (.tmp 30) 24 rfl w.heap.size 3 i0 (.int .i64 0) Try.underlying24 hi hz0 hz1 hz2 rfl _ ys rfl (Ho4.out.alloc _) (some ⟨_, 0, none⟩) 1 [y] rfl (arg_one _ y _) (by simp; omega) (by simp; omega) ?_; intro v' w5 hown5 hg5; have H5 := Lib.hid hown5; have Hb5 := Lib.hid ((Hb4.out.alloc hsz4 _).grown hg5 (by simp; omega) (fun g e => (Ho4.out.lt g e).1)); clear hown5 hg5)
          go_roundw
          case rel => exact ⟨b + 1, _, _, by omega, by omega, by go_num, rfl, by rw [Hs.out, Hy.out, List.append_assoc], H5.out, Hb5.out⟩
          case measure => simp [intOf]; omega
        · obtain rfl : b = m := by omega
          have Hs := Lib.hid (trTo_succ (n := (b : Int)) (N := ss) b k)
          go_wp2
          go_roundw
          case rel => exact ⟨k + 1, ys, _, by omega, by go_num, rfl, by rw [Hy.out, Hs.out], Hoy.out, Hby.out⟩
          case measure => simp [intOf]; omega
    · obtain rfl : k = m := by omega
      go_wp2
      go_ret2
      rw [N.out, E1.out, ← Hx.out]
      exact RetS.mk (f := fun v => .tuple #[v, .bool true]) (by omega) Ho.out Hb.out

set_option maxRecDepth 100000 in
set_option maxHeartbeats 4000000 in
theorem specNetTree_b (n : Int) (A : Option Addr) (c : Nat) (ss : List Lin) (w : World) (ha : ArgL w A c ss) :
    Calls Try.prog 28 #[.int .i64 n, .slice A ss.length c] w (RetS 3 (fun v => .tuple #[v, .bool (netB n ss)]) (treeV n ss) w) := by
  obtain ⟨i0, hi, hz0, hz1, hz2⟩ := info_parts intInf
  have HA := Lib.hid ha
  clear ha
  have hno := fun h => tree_no (n := n) (N := ss) h
  have hyes := fun h => tree_yes (n := n) (N := ss) h
  have h26 := fun (h : netB n ss = true) => (netB_true.1 h).1
  have Hno := Lib.hid hno
  have Hyes := Lib.hid hyes
  have H26 := Lib.hid h26
  clear hno hyes h26
  go_enter Try.func28, Try.ntmps28
  go_wp2
  go_loopw [6, 7] (fun lv i wr => ∃ (k : Nat) (xs : List Int) (sv : Value), k ≤ n.toNat ∧ (0 < k → netB n ss = true) ∧ i = .int .i64 k ∧ lv = sv ∧ xs = trTo n ss n.toNat k ∧ xs.length ≤ 6 * k ∧ wr.ownsRow w.heap.size 3 1 sv xs.length (xs.map (Value.int .i64)) ∧ Below w.heap.size w wr) (fun _ i _ => n.toNat - (intOf i).toNat)
  case atStart => exact ⟨0, [], _, Nat.zero_le _, fun h => absurd h (by omega), rfl, rfl, rfl, by simp, own_none w _, below_none w _⟩
  case round =>
    obtain ⟨k, xs, sv, hk, hke, rfl, rfl, hx, hxl, ho, hb⟩ := hrel
    have Hx := Lib.hid hx
    have Ho := Lib.hid ho
    have Hb := Lib.hid hb
    have Hke := Lib.hid hke
    clear hx ho hb hke
    have hend : ∀ (hq : netB n ss = false ∨ ¬ (k : Int) < n), treeV n ss = xs := fun hq => by
      cases e1 : netB n ss
      · have h0 : k = 0 := by
          rcases Nat.eq_zero_or_pos k with h | h
          · exact h
          · have := Hke.out h; rw [e1] at this; cases this
        rw [Hno.out e1, Hx.out, h0]; rfl
      · rcases hq with h | h
        · rw [e1] at h; cases h
        · have : k = n.toNat := by omega
          rw [Hyes.out e1, Hx.out, this]
    have HEnd := Lib.hid hend
    have hxs : xs.length ≤ 2097152 := by
      rcases Nat.eq_zero_or_pos k with h | h
      · omega
      · have := H26.out (Hke.out h); omega
    clear hend
    by_cases hlt : (k : Int) < n
    · go_wp2_with fail
      refine (specNetValid_b _ _ _ _ _ (HA.out.go Hb.out)).mono ?_
      rintro e w1 ⟨rfl, hb1⟩
      have Ho1 := Lib.hid (own_below Ho.out hb1)
      have Hb1 := Lib.hid (below_step Hb.out hb1)
      clear hb1
      cases e1 : netB n ss
      · have T := Lib.hid (HEnd.out (.inl e1))
        have E1 := Lib.hid e1
        clear e1
        go_wp2_with fail
        refine (specNetValid_b _ _ _ _ _ (HA.out.go Hb1.out)).mono ?_
        rintro e w2 ⟨rfl, hb2⟩
        have Ho2 := Lib.hid (own_below Ho1.out hb2)
        have Hb2 := Lib.hid (below_step Hb1.out hb2)
        clear hb2
        go_wp2
        go_ret2
        rw [T.out, E1.out]
        exact RetS.mk (f := fun v => .tuple #[v, .bool false]) hxs Ho2.out Hb2.out
      obtain ⟨h2, h6⟩ := H26.out e1
      have E1 := Lib.hid e1
      clear e1
      have q1 : IntKind.i64.wrap ((k : Int) + 1) = (k : Int) + 1 := IntWalk.i64_in _ (by omega)
      go_wp2
      go_loopw [6, 8] (fun lv i wr => ∃ (b : Nat) (ys : List Int) (sv : Value), k + 1 ≤ b ∧ b ≤ n.toNat ∧ i = .int .i64 b ∧ lv = sv ∧ ys = trTo n ss n.toNat k ++ trIn n ss k b ∧ wr.ownsRow w.heap.size 3 1 sv ys.length (ys.map (Value.int .i64)) ∧ Below w.heap.size w wr) (fun _ i _ => n.toNat - (intOf i).toNat)
      case atStart => exact ⟨k + 1, xs, _, Nat.le_refl _, by omega, by go_num, rfl, by rw [trIn_zero, List.append_nil, Hx.out], Ho1.out, Hb1.out⟩
      case round =>
        obtain ⟨b, ys, sv, hb1, hb2, rfl, rfl, hy, hoy, hby⟩ := hrel
        have hyl : ys.length ≤ 6 * k + 6 := by rw [hy, List.length_append, trIn_len, ← Hx.out]; omega
        have hyl2 : ys.length = xs.length + (b - (k + 1)) := by rw [hy, List.length_append, trIn_len, ← Hx.out]
        have Hy := Lib.hid hy
        have Hoy := Lib.hid hoy
        have Hby := Lib.hid hby
        clear hy hoy hby
        by_cases hlt2 : (b : Int) < n
        · have Hs := Lib.hid (trIn_succ (n := n) (N := ss) hb1)
          have Hm := Lib.hid (fun (W : World) (h : Below w.heap.size w W) => specTrafficMost_b n A c ss (k : Int) (b : Int) W (HA.out.go h))
          obtain ⟨y, hyy⟩ : ∃ y, mostV n ss (k : Int) (b : Int) = y := ⟨_, rfl⟩
          rw [hyy] at Hs Hm
          clear hyy
          go_wp2_with fail
          refine (Hm.out _ Hby.out).mono ?_
          rintro e w4 ⟨rfl, hb4⟩
          have Ho4 := Lib.hid (own_below Hoy.out hb4)
          have Hb4 := Lib.hid (below_step Hby.out hb4)
          have hsz4 := Hb4.out.size
          clear hb4
          go_wp2_with (at_builtin; refine wpList_append_ints rfl (.tmp 27) (.tmp 33) 24 rfl w.heap.size 3 i0 (.int .i64 0) Try.underlying24 hi hz0 hz1 hz2 rfl _ ys rfl (Ho4.out.alloc _) (some ⟨_, 0, none⟩) 1 [y] rfl (arg_one _ y _) (by simp; omega) (by simp; omega) ?_; intro v' w5 hown5 hg5; have H5 := Lib.hid hown5; have Hb5 := Lib.hid ((Hb4.out.alloc hsz4 _).grown hg5 (by simp; omega) (fun g e => (Ho4.out.lt g e).1)); clear hown5 hg5)
          go_roundw
          case rel => exact ⟨b + 1, _, _, by omega, by omega, by go_num, rfl, by rw [Hs.out, Hy.out, List.append_assoc], H5.out, Hb5.out⟩
          case measure => simp [intOf]; omega
        · have hbn : b = n.toNat := by omega
          have Hs := Lib.hid (trTo_succ (n := n) (N := ss) n.toNat k)
          have Hy2 := Lib.hid (show ys = trTo n ss n.toNat (k + 1) by rw [Hy.out, hbn, Hs.out])
          go_wp2
          go_roundw
          case rel => exact ⟨k + 1, ys, _, by omega, fun _ => E1.out, by go_num, rfl, Hy2.out, by omega, Hoy.out, Hby.out⟩
          case measure => simp [intOf]; omega
    · have T := Lib.hid (HEnd.out (.inr hlt))
      go_wp2_with fail
      refine (specNetValid_b _ _ _ _ _ (HA.out.go Hb.out)).mono ?_
      rintro e w2 ⟨rfl, hb2⟩
      have Ho2 := Lib.hid (own_below Ho.out hb2)
      have Hb2 := Lib.hid (below_step Hb.out hb2)
      clear hb2
      go_wp2
      go_ret2
      rw [T.out]
      exact RetS.mk (f := fun v => .tuple #[v, .bool (netB n ss)]) hxs Ho2.out Hb2.out
end Go.Proofs.Ytbnpglljloaclaa
