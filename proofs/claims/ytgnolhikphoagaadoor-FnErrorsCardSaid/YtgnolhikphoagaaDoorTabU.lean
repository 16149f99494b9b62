/-
  What the library's own variables hold: unicode/utf8's two tables, and some number in internal/bytealg.MaxLen.
-/
import Derived.Test.YtgnolhikphoagaaDoorMem
import Derived.Test.YtgnolhikphoagaaDoorShelf
import Derived.Lib.LaidU8T
import Derived.Shelf.Strings.SlTrimAscii
namespace Go.Proofs.YtgnolhikphoagaaDoor
open Go.RowKit Go.Shelf

/-- the three variables lie as the card says -/
def Tab (w : World) : Prop := Lib.Utf8Tabs (Tryd.laysM146_ren.g 3) (Tryd.laysM146_ren.g 4) w ∧ (∃ m, w.cell? ⟨Tryd.laysM146_ren.g 1, 0, none⟩ = some (.int .i64 m)) ∧ 3 ≤ w.heap.size
theorem Tab.lt {w : World} (h : Tab w) : 3 ≤ w.heap.size := h.2.2
theorem Tab.grown {w w' : World} (h : Tab w) {row : Option Nat} (hg : w.grownBy w' row) (hr : ∀ r, row = some r → 3 ≤ r) : Tab w' := by
  have key : ∀ g o v, g < 3 → w.cell? ⟨g, o, none⟩ = some v → w'.cell? ⟨g, o, none⟩ = some v := by
    intro g o v hlt hc
    refine (World.cell?_of_block (hg.block g (Nat.lt_of_lt_of_le hlt h.2.2) fun e => ?_)).trans hc
    have := hr g e.symm
    omega
  obtain ⟨⟨h1, h2⟩, ⟨m, h3⟩, h4⟩ := h
  exact ⟨⟨fun c hc => key _ _ _ (by decide) (h1 c hc), fun i hi => ⟨key _ _ _ (by decide) (h2 i hi).1, key _ _ _ (by decide) (h2 i hi).2⟩⟩, ⟨m, key _ _ _ (by decide) h3⟩, Nat.le_trans h4 hg.size⟩
theorem Tab.go {w w' : World} (h : Tab w) (hb : Below w.heap.size w w') : Tab w' := h.grown (grown_of_below hb none) (fun r e => by cases e)
theorem Tab.below {B : Nat} {w w' : World} (h : Tab w) (hb : Below B w w') (hB : 3 ≤ B) : Tab w' := by
  have key : ∀ g o v, g < 3 → w.cell? ⟨g, o, none⟩ = some v → w'.cell? ⟨g, o, none⟩ = some v := fun g o v hlt hc => (hb.cell (p := ⟨g, o, none⟩) (Nat.lt_of_lt_of_le hlt hB)).trans hc
  obtain ⟨⟨h1, h2⟩, ⟨m, h3⟩, h4⟩ := h
  exact ⟨⟨fun c hc => key _ _ _ (by decide) (h1 c hc), fun i hi => ⟨key _ _ _ (by decide) (h2 i hi).1, key _ _ _ (by decide) (h2 i hi).2⟩⟩, ⟨m, key _ _ _ (by decide) h3⟩, Nat.le_trans h4 hb.size⟩
theorem Tab.drewN {w : World} (h : Tab w) (n : Nat) : Tab (w.drewN n) := h.go (below_drewN (Below.refl _ _) n)

/-- strings.Trim at an ASCII cutset -/
theorem trim_c (s cs : ByteArray) (w : World) (hs : s.size ≤ 1048576) (hc : cs.size < 4294967281) (ha : ∀ (j : Nat) b, cs.data.toList[j]? = some b → b.toNat < 128) :
    Calls Tryd.prog 50 #[.string s, .string cs] w fun e w' => e = .returned (.string ⟨(Lib.trimS s.data.toList cs.data.toList).toArray⟩) ∧ Below w.heap.size w w' :=
  Any.strings_Trim_laid Tryd.lays160 (by kernel_rfl) s cs w (by omega) hc ha
/-- strings.Split at a cut that is not empty -/
theorem split_c (s sep : ByteArray) (w : World) (hT : Tab w) (hs : s.size ≤ 1048576) (h1 : 1 ≤ sep.size) :
    Calls Tryd.prog 60 #[.string s, .string sep] w fun e w' =>
      e = .returned (.slice (some ⟨w.heap.size, 0, none⟩) (Lib.countB s sep + 1) (Lib.countB s sep + 1)) ∧ w' = w.alloc (.cells ((Lib.splitB sep 0 (Lib.countB s sep) s).map Value.string).toArray 9) := by
  obtain ⟨m, hm⟩ := hT.2.1
  exact Any.strings_Split { Tryd.laysM146 with } Tryd.laysM146.i9 s sep m w (by omega) hm h1

end Go.Proofs.YtgnolhikphoagaaDoor
