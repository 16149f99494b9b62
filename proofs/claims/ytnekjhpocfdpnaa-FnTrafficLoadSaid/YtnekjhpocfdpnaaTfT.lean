/-
  The numbers of a usage are told in the order of the lines: maps.Keys, slices.Sorted, told.
-/
import Derived.Test.YtnekjhpocfdpnaaTfU
import Derived.Test.YtnekjhpocfdpnaaTfG
import Derived.Test.YtnekjhpocfdpnaaShK
import Derived.Test.YtnekjhpocfdpnaaStkA
import Derived.Test.YtnekjhpocfdpnaaApI0
namespace Go.Proofs.Ytnekjhpocfdpnaa
open Go.RowKit Go.Maps Go.Sort Go.Shelf

theorem sortsA (m : Nat) : AnyZI.SortsIn Try.prog Try.sortedA_ren Fence.wide m :=
  ⟨fun blk off cap ss W hH hblk hsz => callsIn_wide.2 (AnyM.slices_Sort_int Try.sortA blk off cap ss W hH hblk hsz),
   fun p cap W => callsIn_wide.2 (AnyM.slices_Sort_int_none Try.sortA p cap W)⟩

/-- the lines' indexes -/
def ixs (n : Nat) : List Int := (List.range n).map (fun i : Nat => (i : Int))
theorem ixs_len (n : Nat) : (ixs n).length = n := by simp [ixs]
theorem ixs_sorted (n : Nat) : (ixs n).Pairwise (fun a b => decide (a ≤ b) = true) := by
  unfold ixs
  rw [List.pairwise_map]
  exact List.pairwise_lt_range.imp (fun h => by simp; omega)
theorem keysC (mb : Option Nat) (W : World) : Calls Try.prog 51 #[.map mb] W fun e w' => e = .returned (.func (.func 56) #[] #[.pointer (some ⟨W.heap.size, 0, none⟩)]) ∧ w' = W.alloc (.cells #[.map mb] 51) :=
  (callsIn_wide (n := 5)).1 (AnyZI.keys_in Try.keysA Fence.wide 5 trivial rfl mb W)

theorem keys_usd {W : World} {b n : Nat} {D : DataW Unit} {L : List Int} (hD : UsD D L) (ho : W.ownsMap Try.prog 3 (plainElem Try.prog 3) b n D) : (ixs L.length).Perm (intKeys D) := by
  obtain ⟨es, hD', hpw, _⟩ := ho.entries keyI
  obtain ⟨es', hD'', hko⟩ := ho.keysOf
  obtain rfl : es = es' := by rw [hD'] at hD''; simpa using hD''
  subst hD'
  refine perm_intKeys hpw (fun p hp => by obtain ⟨v, hv⟩ := hko p hp; obtain ⟨x, _, hx, _⟩ := Maps.keyOf_i64 Try.underlying3 hv; exact ⟨x, hx⟩) ?_ ?_
  · unfold ixs
    exact List.pairwise_map.2 (List.nodup_range.imp (fun h e => h (by omega)))
  · intro x
    rw [hD.2]
    unfold ixs
    rw [List.mem_map]
    constructor
    · rintro ⟨i, hi, rfl⟩; exact ⟨i, List.mem_range.1 hi, rfl⟩
    · rintro ⟨i, hi, e⟩
      injection e with _ e
      exact ⟨i, List.mem_range.2 hi, e.symm⟩
theorem sort_ixs {ss : List Int} {n : Nat} (h : ss.Perm (ixs n)) : ss.mergeSort (fun x y => decide (x ≤ y)) = ixs n := by
  rw [mergeSort_of_perm_i h]
  exact List.mergeSort_of_pairwise (ixs_sorted n)

set_option maxRecDepth 100000 in
set_option maxHeartbeats 2000000 in
/-- THE KEYS, SORTED -/
theorem sortedC (Bm B : Nat) (L : List Int) (w : World) (hu : Usg w B L) (hBm : Bm < w.heap.size) (hm : w.cell? ⟨Bm, 0, none⟩ = some (.map (some B))) (hl : L.length ≤ 1000) :
    Calls Try.prog 50 #[.func (.func 56) #[] #[.pointer (some ⟨Bm, 0, none⟩)]] w (RetS 3 id (ixs L.length) w) := by
  obtain ⟨D, ho, hD, hs⟩ := hu
  have hp := keys_usd hD ho
  have hseq : SeqGives Fence.wide 3 Try.prog 56 #[.pointer (some ⟨Bm, 0, none⟩)] encZ (fun ss => ss.Perm (intKeys D)) (Maps.size D) w :=
    AnyZI.keys_gives (ρ := Try.keysA_ren) { Try.keysA with } Fence.wide _ trivial rfl (by omega) Bm B _ D _ hBm hm ho
  have cS := AnyZI.sorted_in Try.sortedA Fence.wide 6 trivial trivial trivial trivial rfl (by omega) (sortsA _) (enters_of Try.func55 (by kernel_rfl) rfl) 56 #[.pointer (some ⟨Bm, 0, none⟩)] trivial (enters_of Try.func56 (by kernel_rfl) rfl) (fun ss => ss.Perm (intKeys D)) (Maps.size D) (by rw [hs]; unfold maxLen; omega) (by rw [hs]; omega) w hseq
  change CallsIn _ _ Try.prog 50 _ _ _ at cS
  refine ((callsIn_wide (n := 6)).1 cS).mono ?_
  rintro e w' ⟨v, ss, rfl, hS, hrow, _, hb⟩
  have hq := hS.trans hp.symm
  have hle := hq.length_eq
  rw [ixs_len] at hle
  rw [sort_ixs hq, hle] at hrow
  have hrow2 : w'.ownsRow w.heap.size 3 1 v (ixs L.length).length ((ixs L.length).map (Value.int .i64)) := by rw [ixs_len]; exact hrow
  exact RetS.mk (f := id) (by rw [ixs_len]; omega) hrow2 hb

set_option maxRecDepth 100000 in
set_option maxHeartbeats 2000000 in
theorem told_c (B : Nat) (L : List Int) (w : World) (hu : Usg w B L) (hl : L.length ≤ 1000) :
    Calls Try.prog 35 #[.map (some B)] w (RetS 3 id L w) := by
  obtain ⟨i0, hi, hz0, hz1, hz2⟩ := info_parts intInf
  obtain ⟨D, hown, hsz, hD⟩ := hu.look
  have hul := hu.lt
  have HU := Lib.hid hu
  have Hown := Lib.hid hown
  have Hsz := Lib.hid hsz
  clear hu hown hD hsz
  go_enter Try.func35, Try.ntmps35
  go_wp2_with (first
    | (at_len; refine wpList_len_own _ rfl _ 51 rfl 3 3 Try.underlying51 _ B _ _ rfl Hown.out ?_; rw [Hsz.out])
    | (at_make; refine wpList_make_own _ rfl _ _ 24 rfl w.heap.size 3 i0 (.int .i64 0) 1 Try.underlying24 hi hz0 hz1 .i64 .i64 _ L.length rfl rfl rfl (by rw [hz2]; omega) (by unfold maxLen; omega) (Nat.le_refl _) ?_; intro w4 hown4 hg4))
  have HO := Lib.hid hown4
  have Hb4 := Lib.hid ((Below.refl w.heap.size w).grown hg4 (Nat.le_refl _) (by simp))
  clear hown4 hg4
  go_wp2_with fail
  refine (keysC _ _).mono ?_
  rintro e w5 ⟨rfl, rfl⟩
  have Hb5 := Lib.hid (Hb4.out.alloc Hb4.out.size (.cells #[.map (some B)] 51))
  have Hsz4 := Lib.hid Hb4.out.size
  go_wp2_with fail
  refine (sortedC w4.heap.size B L _ (HU.out.go Hb5.out) (by simp) (by simp [World.cell?_alloc_at]) hl).mono ?_
  rintro e w6 ⟨A6, c6, rfl, ha6, ho6, hb6⟩
  dsimp only [id]
  have Hb6 := Lib.hid (Hb5.out.trans (hb6.mono (by have := Hsz4.out; simp; omega)))
  have HS := Lib.hid (ho6.held (Nat.le_refl _) ha6.len)
  have HO6 := Lib.hid (own_below (own_below HO.out ((Below.refl w4.heap.size w4).alloc (Nat.le_refl _) (.cells #[.map (some B)] 51))) hb6)
  have Hlo : Hid (∀ g, (Value.slice (some ⟨w.heap.size, 0, none⟩) 0 L.length).ownBlock = some g → g < w4.heap.size) := Lib.hid (fun g e => (HO.out.lt g e).2)
  have Hsz6 := Lib.hid hb6.size
  obtain ⟨lo, hlo⟩ : ∃ lo, (w4.alloc (.cells #[.map (some B)] 51)).heap.size = lo := ⟨_, rfl⟩
  have hlo2 : w4.heap.size ≤ lo := by rw [← hlo]; simp
  rw [hlo] at HS
  have Hlo2 := Lib.hid hlo2
  clear ha6 ho6 hb6 hlo hlo2
  have hil := ixs_len L.length
  have Hil := Lib.hid hil
  clear hil
  go_wp2
  go_loopw [3, 13] (fun tv i wr => ∃ k : Nat, k ≤ L.length ∧ i = .int .i64 k ∧ wr.ownsRow w.heap.size 3 1 tv k ((L.take k).map (Value.int .i64)) ∧ Below w.heap.size w wr ∧ Held lo w6.heap.size wr A6 c6 (ixs L.length) ∧ ∀ g, tv.ownBlock = some g → g < lo ∨ w6.heap.size ≤ g) (fun _ i _ => L.length - (intOf i).toNat)
  case atStart => exact ⟨0, Nat.zero_le _, rfl, HO6.out, Hb6.out, HS.out, fun g e => by have := Hlo.out g e; have := Hlo2.out; omega⟩
  case round =>
    obtain ⟨k, hk, rfl, ho, hb, hs, hg⟩ := hrel
    have Ho := Lib.hid ho
    have Hb := Lib.hid hb
    have Hs := Lib.hid hs
    have Hg := Lib.hid hg
    clear ho hb hs hg
    by_cases hlt : k < L.length
    · obtain ⟨b1, off1, rfl, _, hb1, hd⟩ := Hs.out.arg.rd.at_ (show k < (ixs L.length).length by rw [Hil.out]; exact hlt)
      have hix : (ixs L.length)[k]?.getD 0 = (k : Int) := by simp [ixs, hlt]
      rw [hix] at hd
      have hrun := (HU.out.go Hb.out).run hlt (wf_of (by omega))
      obtain ⟨l, hl2⟩ : ∃ l, ldAt L k = l := ⟨_, rfl⟩
      rw [hl2] at hrun
      have hnx : (L.take (k + 1)).map (Value.int .i64) = (L.take k).map (Value.int .i64) ++ [.int .i64 l] := by
        rw [List.take_succ_eq_append_getElem hlt, List.map_append, ← hl2]
        simp [ldAt, hlt]
      have Hnx := Lib.hid hnx
      clear hix hl2 hnx
      have g1 : (k : Int) < ((ixs L.length).length : Int) := by rw [Hil.out]; omega
      go_wp2_with (at_builtin; refine wpList_append_new _ rfl (.tmp 17) (.tmp 21) 24 rfl w.heap.size 3 i0 (.int .i64 0) 1 8 Try.underlying24 hi hz0 hz1 hz2 rfl (by decide) _ k _ rfl (Ho.out.alloc _) ⟨wr.heap.size, 0, none⟩ 1 1 [.int .i64 l] rfl rfl (one_new _ _ _) (by simp [Value.oneCell']) (by unfold maxLen; omega) (by omega) (by have := Hb.out.size; simp; omega) ?_; intro v' w7 hown7 hgr7 hnew7; have O7 := Lib.hid hown7; have G7 := Lib.hid hgr7; have N7 := Lib.hid hnew7; clear hown7 hgr7 hnew7)
      go_roundw
      case rel =>
        have s1 := Hb.out.size
        have s6 := Hs.out.2.1
        have hal := World.grownBy_alloc wr (.cells #[.int .i64 l] 3) none
        refine ⟨k + 1, by omega, by go_num, by rw [Hnx.out]; exact O7.out, (Hb.out.alloc s1 _).grown G7.out (by simp; omega) (fun r e => (Ho.out.lt r e).1), (Hs.out.grown hal (by simp)).grown G7.out (fun r e => Hg.out r e), ?_⟩
        intro g e
        rcases N7.out g e with h | h
        · exact Hg.out g h
        · right; simp at h; omega
      case measure => simp [intOf]; omega
    · obtain rfl : k = L.length := by omega
      have hfin := Ho.out
      rw [List.take_length] at hfin
      have Hfin := Lib.hid hfin
      clear hfin
      have g1 : ¬ (L.length : Int) < ((ixs L.length).length : Int) := by rw [Hil.out]; omega
      go_wp2
      go_ret
      exact RetS.mk (f := id) (by omega) Hfin.out Hb.out

end Go.Proofs.Ytnekjhpocfdpnaa
