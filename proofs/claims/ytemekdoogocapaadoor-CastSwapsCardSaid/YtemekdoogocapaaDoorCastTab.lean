/-
  LAYER 2: the program's table, as the walks hold it.
-/
import Derived.Test.YtemekdoogocapaaDoorCastRef2
import Derived.Test.YtemekdoogocapaaDoorCastImplM
namespace Go.Proofs.YtemekdoogocapaaDoor
open Go.RowKit


/-- The table's cells hold what the program's text lays. -/
def Tab (w : World) : Prop := ∀ i, i < 9 → w.cell? ⟨0, i, none⟩ = some (.int .u64 ((tn i : Nat) : Int))

theorem Tab.below {w w' : World} (h : Tab w) (b : Below w.heap.size w w') : Tab w' := fun i hi =>
  (b.cell (p := ⟨0, i, none⟩) (World.block_lt_of_cell? w _ (h i hi))).trans (h i hi)
theorem Tab.drewN {w : World} {n : Nat} (h : Tab w) : Tab (w.drewN n) := fun i hi => by
  rw [← h i hi]; simp
end Go.Proofs.YtemekdoogocapaaDoor
