/-
  LAYER 1: the examples that each law of this layer asks at last: they come out true, and nothing that was there has turned.
-/
import Derived.Test.YtkabibbmaekkfaaNotchReader
namespace Go.Proofs.Ytkabibbmaekkfaa
open Go.RowKit

theorem below_grown {B g : Nat} {a b c : World} (h : Below B a b) (k : b.grownBy c (some g)) (hB : B ≤ b.heap.size) (hg : B ≤ g) : Below B a c :=
  h.grown k hB (fun i hi => by cases hi; exact hg)

set_option maxHeartbeats 1000000 in
theorem head_any (w : World) : Calls Try.prog 10 #[] w fun e w' => e = .returned (.bool true) ∧ Below w.heap.size w w' := by
  go_enter Try.func10, Try.ntmps10
  go_wp2_with fail
  refine (open_any ⟨#[2, 1, 2, 5]⟩ _).mono ?_
  rintro e w1 ⟨rfl, h1, b1⟩
  have r1 : RD w1 w.heap.size [2, 1, 2, 5] 1 := h1
  clear h1
  go_wp2_with fail
  refine (numR_any w.heap.size [2, 1, 2, 5] 1 _ r1 (.inl rfl) (by simp)).mono ?_
  rintro e w2 ⟨rfl, h2, g2⟩
  have r2 : RD w2 w.heap.size [5] 1 := h2
  have b2 := below_grown b1 g2 b1.size (Nat.le_refl _)
  clear h2 g2 r1 b1
  rw [show (rNum [2, 1, 2, 5] 1).1 = 258 from rfl]
  go_wp2_with fail
  refine (leftR_good w.heap.size [5] _ r2).mono ?_
  rintro e w3 ⟨rfl, rfl⟩
  go_wp2_with fail
  refine (numR_any w.heap.size [5] 1 _ r2 (.inl rfl) (by simp)).mono ?_
  rintro e w3 ⟨rfl, h3, g3⟩
  have r3 : RD w3 w.heap.size [] 2 := h3
  have b3 := below_grown b2 g3 b2.size (Nat.le_refl _)
  clear h3 g3 r2 b2
  rw [show (rNum [5] 1).1 = 0 from rfl]
  have s3 := b3.size
  go_wp2_with fail
  refine (num_any w3.heap.size 0 2 [258, 7] _ (by simp) ?ca (by simp) ?cb).mono ?_
  case ca => intro n hn; simp at hn; omega
  case cb =>
    intro i hi
    have hi2 : i = 0 ∨ i = 1 := by simp at hi; omega
    rcases hi2 with rfl | rfl <;> (rw [World.cell?_alloc_at _ _ _ _ rfl]; rfl)
  rintro e w4 ⟨rfl, b4⟩
  have r4 := (show RD (w3.alloc _) w.heap.size [] 2 from (Below.heap_alloc w3 _ _ r3.lt).trans r3).below b4 (by simp; have := r3.lt; omega)
  have b4' : Below w.heap.size w w4 := (b3.alloc s3 _).trans (b4.mono (by simp; omega))
  clear b3 b4 r3
  rw [show mk (numsB [258, 7]) = ⟨#[2, 1, 2, 1, 7]⟩ from rfl]
  go_wp2_with fail
  refine (text_any ⟨#[97, 98]⟩ _ (by decide)).mono ?_
  rintro e w5 ⟨rfl, b5⟩
  rw [show mk (textB (⟨#[97, 98]⟩ : ByteArray).data.toList) = ⟨#[1, 2, 97, 98]⟩ from rfl]
  have r5 := r4.below b5 r4.lt
  have b5' : Below w.heap.size w w5 := b4'.trans (b5.mono b4'.size)
  clear b5 r4 b4'
  go_wp2_with fail
  have hlong := long_any 65536 w5 (by omega)
  rw [show (((65536 : Nat) : Int)) = 65536 from rfl, show (((numB 65536).length : Nat) : Int) = 4 from rfl] at hlong
  refine hlong.mono ?_
  rintro e w6 ⟨rfl, rfl⟩
  clear hlong
  go_wp2_with (first
    | (go_at_call 25; refine (bad_any w.heap.size [] 2 _ r5 (.inr rfl)).mono ?_; rintro e w6 ⟨rfl, rfl⟩)
    | (go_at_call 24; refine (leftR_bad w.heap.size [] _ r5).mono ?_; rintro e w6 ⟨rfl, rfl⟩))
  go_ret
  exact ⟨rfl, b5'⟩
end Go.Proofs.Ytkabibbmaekkfaa
