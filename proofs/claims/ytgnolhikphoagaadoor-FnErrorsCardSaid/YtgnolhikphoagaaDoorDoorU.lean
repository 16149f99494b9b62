/-
  The start of a card's seat: its listed variables as their text lays them; and a contract under the world's shape. (Common to all cards of the seat.)
-/
import Derived.Test.YtgnolhikphoagaaDoorTabU
import Derived.Test.YtgnolhikphoagaaDoorCards
import Derived.Test.YtgnolhikphoagaaDoorRow
import Derived.PinnedBridge
import Derived.HandedShaped
import Derived.LaidMore
import Derived.Lay
import Derived.SevenTiedAt
import Derived.Stop.Joined
namespace Go.Proofs.YtgnolhikphoagaaDoor
open Go.RowKit Go.Shelf

/-- what the rows list -/
def laidU : List (String × DataW Unit) := [("unicode/utf8.acceptRanges", Rows.laid_unicode_utf8_acceptRanges), ("unicode/utf8.first", Rows.laid_unicode_utf8_first)]
theorem u8_types : U8Types Tryd.prog Tryd.laysM146_ren := { Tryd.laysM146 with }
theorem u8_extra : U8Extra Tryd.prog Tryd.laysM146_ren := { n3 := by kernel_rfl, n4 := by kernel_rfl, y3 := by kernel_rfl, y4 := by kernel_rfl, c5 := by kernel_rfl, c119 := by kernel_rfl, c138 := by kernel_rfl }
theorem accept_eq : Rows.laid_unicode_utf8_acceptRanges (H := Unit) = Lib.acceptData := by kernel_rfl
theorem tab_of {W : World} (h : laidMetH Tryd.prog laidU W) (hsh : W.ShapedOpen Tryd.prog) : Tab W := by
  have h2 : laidMet Tryd.prog laidU W := h
  have r3 : Lib.VarReads Tryd.prog W "unicode/utf8.first" Lib.firstData := by
    rw [← Pinned.utf8First_eq]
    exact Lib.laidMet.reads h2 (List.mem_cons_of_mem _ (List.mem_cons_self ..))
  have r4 : Lib.VarReads Tryd.prog W "unicode/utf8.acceptRanges" Lib.acceptData := by
    rw [← accept_eq]
    exact Lib.laidMet.reads h2 (List.mem_cons_self ..)
  have ht := utf8Tabs_of_readsT u8_types u8_extra r3 r4
  obtain ⟨m, hm⟩ := Tryd.laysM146.s1_3 W hsh
  refine ⟨ht, ⟨m, hm⟩, ?_⟩
  first
    | exact World.block_lt_of_cell? _ _ hm
    | exact World.block_lt_of_cell? _ _ (ht.2 0 (by decide)).1
    | exact World.block_lt_of_cell? _ _ (ht.1 0 (by decide))

/-- the witness's world: the two tables laid -/
noncomputable def doorW (os : Os) : World := World.laidAll Tryd.prog os laidU
theorem doorW_os (os : Os) : (doorW os).os = os := World.laidAll_os _ _ _
set_option maxRecDepth 100000 in
theorem door_laid (os : Os) (args : Array Value) : laidMetH Tryd.prog laidU ((doorW os).forCall (fun _ _ => 0) ⟨#[], args, []⟩).memory := by
  rw [MakeChecks.laidMetH_plain _ _ _ (by kernel_rfl)]
  exact laidMet_laidAll _ (by kernel_rfl) (by kernel_rfl)
set_option maxRecDepth 100000 in
theorem door_shaped (os : Os) (args : Array Value) : ((doorW os).forCall (fun _ _ => 0) ⟨#[], args, []⟩).Shaped Tryd.prog :=
  World.shaped_of_ZipB (by kernel_rfl) (by kernel_rfl)
set_option maxRecDepth 100000 in
theorem door_main : Tryd.pinned.checked.prog.mainIs = some (Rows.fnCodeCard.stood.harness.1, Rows.fnCodeCard.stood.harness.2.toList) := by kernel_rfl
set_option maxRecDepth 100000 in
theorem door_looks : false = Tryd.pinned.checked.prog.looks [] := by kernel_rfl

end Go.Proofs.YtgnolhikphoagaaDoor
