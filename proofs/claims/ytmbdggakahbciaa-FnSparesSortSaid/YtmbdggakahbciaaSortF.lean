/-
  Sorted spares: the mathematics of P48.
-/
import Derived.Test.YtmbdggakahbciaaFitM
import Derived.Test.YtmbdggakahbciaaSpSS
namespace Go.Proofs.Ytmbdggakahbciaa
open Go.RowKit

theorem serve_one {L : List Spr} {d : Spr} (hB : bothB L [d] = true) {i : Nat} (hi : i < L.length) (h : srvB (sprAt L i) d = true) : serveB L [d] = true := by
  have hmem : [(i : Int)] ∈ allS L [d] := by
    rw [allS_from, ← preS_all (by simp)]
    unfold preS
    rw [List.mem_flatMap]
    refine ⟨[(i : Int)], ext_mem.2 ⟨i, hi, by rw [sf_one]; exact h, rfl⟩, ?_⟩
    rw [fromS_end (by simp)]; simp
  obtain ⟨y, hy⟩ := bst_some (c := sumZ L) (l := allS L [d]) (fun e => by rw [e] at hmem; simp at hmem)
  unfold serveB serveG
  rw [if_pos hB, hy]; rfl
theorem spr_idx {S : List Spr} {s : Spr} (h : s ∈ S) : ∃ i, i < S.length ∧ sprAt S i = s := by
  obtain ⟨i, hi, rfl⟩ := List.mem_iff_getElem.1 h
  exact ⟨i, hi, sprAt_lt hi⟩
theorem perm_serve {L M : List Spr} {d : Spr} (hp : ∀ s, s ∈ L → s ∈ M) (hB : bothB M [d] = true) (h : serveB L [d] = true) : serveB M [d] = true := by
  obtain ⟨j, _, _, hj, _, hs, _⟩ := fit_found h
  obtain ⟨i, hi, he⟩ := spr_idx (hp _ (sprAt_mem hj))
  exact serve_one hB hi (by rw [he]; exact hs)
theorem perm_fit {L M : List Spr} {d : Spr} (hp : ∀ s, s ∈ L ↔ s ∈ M) (hB : bothB L [d] = true) (hB2 : bothB M [d] = true) :
    serveB M [d] = serveB L [d] ∧ (serveB L [d] = true → ∃ a b : Nat, fitV L d = a ∧ fitV M d = b ∧ a < L.length ∧ b < M.length ∧ sprAt L a = sprAt M b) := by
  have h1 := fun h => perm_serve (L := L) (M := M) (d := d) (fun s hs => (hp s).1 hs) hB2 h
  have h2 := fun h => perm_serve (L := M) (M := L) (d := d) (fun s hs => (hp s).2 hs) hB h
  refine ⟨?_, fun h => ?_⟩
  · cases e : serveB L [d] with
    | true => exact h1 e
    | false =>
      cases e2 : serveB M [d] with
      | true => rw [h2 e2] at e; cases e
      | false => rfl
  · obtain ⟨a, ha, _, haL, _, has, hab⟩ := fit_found h
    obtain ⟨b, hb, _, hbM, _, hbs, hbb⟩ := fit_found (h1 h)
    refine ⟨a, b, ha, hb, haL, hbM, ?_⟩
    obtain ⟨i, hi, hie⟩ := spr_idx ((hp _).2 (sprAt_mem hbM))
    obtain ⟨j, hj, hje⟩ := spr_idx ((hp _).1 (sprAt_mem haL))
    have m1 := hab i hi (by rw [hie]; exact hbs)
    have m2 := hbb j hj (by rw [hje]; exact has)
    rw [hie] at m1
    rw [hje] at m2
    have k1 := (srvB_true.1 has).1
    have k2 := (srvB_true.1 hbs).1
    exact Spr.ext_ (by omega) (by omega)
theorem sort_again (L : List Spr) : sortZ (sortZ L) = sortZ L := (sortZ_one (L := sortZ L) (List.Perm.refl _) (sortZ_pw L)).symm
theorem sort_step (L : List Spr) {i : Nat} (h : i + 1 < (sortZ L).length) : (sprAt (sortZ L) i).k < (sprAt (sortZ L) (i + 1)).k ∨ ((sprAt (sortZ L) i).k = (sprAt (sortZ L) (i + 1)).k ∧ (sprAt (sortZ L) (i + 1)).m ≤ (sprAt (sortZ L) i).m) := by
  have h1 := (List.pairwise_iff_getElem.1 (sortZ_pw L)) i (i + 1) (by omega) h (by omega)
  rw [sprAt_lt h, sprAt_lt (by omega : i < (sortZ L).length)]
  exact leS_true.1 h1
theorem sort_fit {L : List Spr} (hL : sprB 10 L = true) {d : Spr} (hd : sprOk d = true) :
    serveB (sortZ L) [d] = serveB L [d] ∧ (serveB L [d] = true → ∃ a b : Nat, fitV L d = a ∧ fitV (sortZ L) d = b ∧ a < L.length ∧ b < (sortZ L).length ∧ sprAt L a = sprAt (sortZ L) b) := by
  have h1 : sprB 10 [d] = true := by rw [sprB_one 10 (by omega)]; exact hd
  exact perm_fit (fun s => (sortZ_perm L).mem_iff.symm) (bothB_one2 hL h1) (bothB_one2 (sortZ_ok hL) h1)

end Go.Proofs.Ytmbdggakahbciaa
