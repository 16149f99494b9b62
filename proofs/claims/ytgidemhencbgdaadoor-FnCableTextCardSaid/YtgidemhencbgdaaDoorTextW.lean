/-
  CableText of both.
-/
import Derived.Test.YtgidemhencbgdaaDoorChainO
import Derived.Test.YtgidemhencbgdaaDoorTextM
import Derived.Test.YtgidemhencbgdaaDoorShelf
import Derived.Deep.QuietTactic
import Derived.BigQuiet
import Derived.StillTailTactics
import Derived.Laws.IdiomStrings
import Derived.IntWalk
import Derived.Deep.RegionWith
namespace Go.Proofs.YtgidemhencbgdaaDoor
open Go.RowKit

theorem conv1 (W : World) (b c : Nat) (d : Int) (h0 : 0 ≤ d) (h1 : d ≤ 255) (hc : W.cell? ⟨b, 0, none⟩ = some (.int .u8 d)) :
    (convert 22 9 (.slice (some ⟨b, 0, none⟩) 1 c)).run Tryd.prog W = .ok (.string (str [UInt8.ofNat d.toNat])) W := by
  refine run_convert_bytes_back W _ _ 5 ⟨b, 0, none⟩ c [UInt8.ofNat d.toNat] Tryd.underlying22 Tryd.underlying5 Tryd.underlying9 ?_
  intro j hj
  have hj0 : j = 0 := by simpa using hj
  subst hj0
  rw [show (⟨b, 0, none⟩ : Addr).add 0 = ⟨b, 0, none⟩ by unfold Addr.add; split <;> simp_all, hc]
  have e : (UInt8.ofNat d.toNat).toNat = d.toNat := by simp; omega
  simp only [List.getElem_cons_zero, e]
  congr 2
  omega
theorem conv_new (W : World) (d : Int) (h0 : 0 ≤ d) (h1 : d ≤ 255) :
    (convert 22 9 (.slice (some ⟨W.heap.size, 0, none⟩) 1 1)).run Tryd.prog (W.alloc (.cells #[.int .u8 d] 5)) = .ok (.string (str [UInt8.ofNat d.toNat])) (W.alloc (.cells #[.int .u8 d] 5)) :=
  conv1 _ _ _ d h0 h1 (cell_of_row _ _ 0 _ _ _ (heap_alloc_new W _))
theorem conv_new_drew (W : World) (d : Int) (h0 : 0 ≤ d) (h1 : d ≤ 255) :
    (convert 22 9 (.slice (some ⟨W.heap.size, 0, none⟩) 1 1)).run Tryd.prog (W.alloc (.cells #[.int .u8 d] 5)).drew = .ok (.string (str [UInt8.ofNat d.toNat])) (W.alloc (.cells #[.int .u8 d] 5)).drew :=
  conv1 _ _ _ d h0 h1 (cell_of_row _ _ 0 _ _ _ (heap_alloc_new W _))

set_option maxHeartbeats 1000000 in
theorem l6Dec_one (n : Int) (w : World) (h0 : 0 ≤ n) (h1 : n < 10) :
    Calls Tryd.prog 20 #[.int .i64 n] w (RetB (.string (str (decT n))) w) := by
  have hc := conv_new w (48 + n) (by omega) (by omega)
  have Hd := Lib.hid (show decT n = [UInt8.ofNat (48 + n).toNat] by rw [decT_small h0 h1, show (48 + n).toNat = 48 + n.toNat by omega])
  go_enter Tryd.func20, Tryd.ntmps20
  go_wp2
  go_ret
  exact ⟨by rw [Hd.out]; rfl, (Below.refl _ _).alloc (Nat.le_refl _) _⟩

set_option maxHeartbeats 4000000 in
theorem l6Dec_up : ∀ (N : Nat) (n : Int) (w : World), 0 ≤ n → n < N → n ≤ 9223372036854775807 → Calls Tryd.prog 20 #[.int .i64 n] w (RetB (.string (str (decT n))) w)
  | 0, n, w, h0, h1, _ => absurd h1 (by simp; omega)
  | N + 1, n, w, h0, h1, h2 => by
    by_cases hs : n < 10
    · exact l6Dec_one n w h0 hs
    have HI := Lib.hid (fun w => l6Dec_up N (n / 10) w (by omega) (by omega) (by omega))
    have Hd := Lib.hid (decT_step (n := n) (by omega))
    have hm0 : 0 ≤ n % 10 := by omega
    have hm1 : n % 10 ≤ 9 := by omega
    have q0 : IntKind.i64.wrap (n / 10) = n / 10 := IntWalk.i64_in _ (by omega)
    have q1 : IntKind.i64.wrap (48 + n % 10) = 48 + n % 10 := IntWalk.i64_in _ (by omega)
    have q2 : IntKind.u8.wrap (48 + n % 10) = 48 + n % 10 := IntWalk.u8_in _ (by omega)
    have t0 : n.tdiv 10 = n / 10 := Int.tdiv_eq_ediv_of_nonneg h0
    have t1 : n.tmod 10 = n % 10 := Int.tmod_eq_emod_of_nonneg h0
    obtain ⟨wd, hwd⟩ : ∃ wd, wd = w.drew := ⟨_, rfl⟩
    obtain ⟨wa, hwa⟩ : ∃ wa, wa = (w.alloc (.cells #[.int .u8 (48 + n % 10)] 5)).drew := ⟨_, rfl⟩
    have Bd := Lib.hid (show Below w.heap.size w wd by rw [hwd]; exact (Below.refl _ _).drew)
    have Ba := Lib.hid (show Below w.heap.size w wa by rw [hwa]; exact ((Below.refl _ _).alloc (Nat.le_refl _) _).drew)
    have Ca := Lib.hid (show wa.cell? ⟨w.heap.size, 0, none⟩ = some (.int .u8 (48 + n % 10)) by rw [hwa]; exact cell_of_row _ _ 0 _ _ _ (heap_alloc_new w _))
    have sa : w.heap.size < wa.heap.size := by rw [hwa]; show w.heap.size < (w.alloc _).heap.size; simp
    have Hwd := Lib.hid hwd
    have Hwa := Lib.hid hwa
    have hc0 := conv_new_drew w (48 + n % 10) (by omega) (by omega)
    have hz : (str (decT (n / 10))).size + (str [UInt8.ofNat (48 + n % 10).toNat]).size ≤ 9223372036854775807 := by
      have := decT_le (n / 10)
      rw [str_size, str_size, List.length_singleton]
      omega
    clear hwd hwa
    go_enter Tryd.func20, Tryd.ntmps20
    go_wp2
    go_region_with (first
      | (rw [← Hwa.out]; go_at_call 20; refine (HI.out wa).mono ?_; rintro e w9 ⟨rfl, hb9⟩; have hc9 := conv1 w9 w.heap.size 1 (48 + n % 10) (by omega) (by omega) ((hb9.cell (p := ⟨w.heap.size, 0, none⟩) sa).trans Ca.out); have B9 := Lib.hid (Ba.out.trans (hb9.mono Ba.out.size)); clear hb9)
      | (rw [← Hwd.out]; go_at_call 20; refine (HI.out wd).mono ?_; rintro e w9 ⟨rfl, hb9⟩; have hc9 := conv_new w9 (48 + n % 10) (by omega) (by omega); have B9 := Lib.hid (Bd.out.trans (hb9.mono Bd.out.size)); clear hb9))
    all_goals
      go_wp2
      go_ret
      refine ⟨by rw [Hd.out, ← str_append]; rfl, ?_⟩
      first
        | exact B9.out
        | exact B9.out.alloc B9.out.size _

theorem l6Dec_c (n : Int) (w : World) (h0 : 0 ≤ n) (h1 : n ≤ 9223372036854775807) :
    Calls Tryd.prog 20 #[.int .i64 n] w (RetB (.string (str (decT n))) w) := l6Dec_up (n.toNat + 1) n w h0 (by omega) h1
theorem itoa_c (n : Int) (w : World) (h0 : 0 ≤ n) (h1 : n < 100) :
    Calls Tryd.prog 17 #[.int .i64 n] w fun e w' => e = .returned (.string (str (decT n))) ∧ w' = w := by
  obtain ⟨i, rfl⟩ := Int.eq_ofNat_of_zero_le h0
  exact Tryd.strconv_Itoa_small i (by omega) w

end Go.Proofs.YtgidemhencbgdaaDoor
