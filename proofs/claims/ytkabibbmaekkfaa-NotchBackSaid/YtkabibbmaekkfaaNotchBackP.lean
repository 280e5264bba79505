/-
  What was put is read as it was, with nothing left, in whatever order numbers and texts stand: the law NotchBack returns true for every input, and leaves its argument as it was. No condition.
-/
import Derived.Test.YtkabibbmaekkfaaNotchLift
import Derived.Test.YtkabibbmaekkfaaNotchBackW
import Derived.Deep.Strs
namespace Go.Proofs.Ytkabibbmaekkfaa.notchBackDone
open Go.ChangeShapes Go.WideShapes Go.ChangeAt Go.RowKit Go.Joins
open Go.ChangeMaps (open_string shut_string)
set_option linter.unusedVariables false

theorem three_of {α : Type} {l : List α} (h : l.length = 3) : ∃ a b c, l = [a, b, c] := by
  match l, h with
  | [a, b, c], _ => exact ⟨a, b, c, rfl⟩

theorem open_items {H : Type} {enc : TypeId × Value → H} {W : World} {b0 : Nat} {v : Value} {d : DataW H} {p : List MemPlace}
    (hv : Value.okWide Try.prog W .any b0 45 v) (h : DataW.Trod enc Try.prog W 0 (fun _ => true) true 45 v d p) :
    ∃ (A : Option Addr) (len cap : Nat) (F : Nat → It), v = .slice A len cap ∧ (∀ i, (F i).n < 2 ^ 64) ∧ ∀ i, i < len → ItemAt W W.heap.size A (F i) i := by
  obtain ⟨A, len, cap, rfl, hlen, hel⟩ := open_rows (K := 3) Try.underlying45 (by kernel_rfl) (by decide) hv h
  have key : ∀ i, ∃ x : It, x.n < 2 ^ 64 ∧ (i < len → ItemAt W W.heap.size A x i) := by
    intro i
    by_cases hi : i < len
    · obtain ⟨b, off, cs, n, x, hA, hb, hl, hc, ht⟩ := hel i hi
      obtain ⟨c0, c1, c2, rfl⟩ := three_of hl
      obtain ⟨y0, y1, y2, m, _, _, t0, t1, t2⟩ := Go.Deep.trod_struct3 Try.underlying47 ht
      have o0 : Try.prog.cellsOf 4 = 1 := by kernel_rfl
      have o1 : Try.prog.cellsOf 25 = 1 := by kernel_rfl
      have o2 : Try.prog.cellsOf 9 = 1 := by kernel_rfl
      simp only [o0, o1, o2, List.drop_zero, List.take_succ_cons, List.take_zero, List.drop_succ_cons] at t0 t1 t2
      obtain ⟨tx, e0, _⟩ := DataW.trod_bool Try.underlying4 t0
      obtain ⟨q, e1, _, w1⟩ := DataW.trod_int Try.underlying25 t1
      obtain ⟨s, e2, _, _⟩ := DataW.trod_string Try.underlying9 t2
      simp only [List.cons.injEq, and_true] at e0 e1 e2
      subst e0 e1 e2
      obtain ⟨q, rfl, hq⟩ := nat_of_u64 w1
      have h0 := hc 0 (by decide)
      have h1 := hc 1 (by decide)
      have h2 := hc 2 (by decide)
      exact ⟨⟨tx, q, s.data.toList⟩, hq, fun _ => ⟨b, off, hA, hb, by simpa using h0, by simpa using h1, by simpa [mk_of] using h2⟩⟩
    · exact ⟨⟨true, 0, []⟩, by show 0 < 2 ^ 64; omega, fun h => absurd h hi⟩
  exact ⟨A, len, cap, fun i => (key i).choose, rfl, fun i => (key i).choose_spec.1, fun i hi => (key i).choose_spec.2 hi⟩

theorem back_law (A : Option Addr) (len cap : Nat) (F : Nat → It) (w : World) (hF : ∀ i, (F i).n < 2 ^ 64) (hc : ∀ i, i < len → ItemAt w w.heap.size A (F i) i) :
    Calls Try.prog 5 #[.slice A len cap] w fun e w' => e = .returned (.bool true) ∧ Below w.heap.size w w' := by
  by_cases hl : 50 < len
  · exact back_long A len cap w hl
  · exact back_any A len cap F w (by omega) hF hc

set_option maxRecDepth 100000 in
theorem lifted (os : Os) (started : os.Started) (H : Type) (enc : TypeId × Value → H) :
    ReturnsInHanded {} Try.checked os 5 .any (Rows.notchBackSpec.pre6 enc Try.prog Try.f5 Rows.notchBackRow.domain false) (Rows.notchBackSpec.post enc Try.prog Try.f5 false true false false) := by
  refine returnsInHanded_of_change (C := Try.checked) own started (by kernel_rfl) Try.func5
    (ChangeSpec.witness6 (enc := enc) (C := Try.checked) false ⟨#[], #[.slice none 0 0], []⟩ 8 (by kernel_rfl) (by kernel_rfl) (by kernel_rfl) (by kernel_rfl)) ?_
  intro W base args ds gs before hval0 hW hcnd _
  have hval : ∀ (j : Nat) t v, Try.f5.params[j]? = some t → args[j]? = some v → Value.okWide Try.prog W .any base t v := hval0
  have hW' := hW
  obtain ⟨p, q, hA0, hV, rfl, hfz, hnd⟩ := hW
  have hA : DataW.TrodAll enc Try.prog W 0 (fun _ => true) true Try.f5.params.toList args.toList ds p := hA0
  rw [Try.params5] at hA hval
  obtain ⟨v0, d0, rfl, rfl, h0⟩ := trodAll_one hA
  obtain ⟨rfl, rfl⟩ := trodVars_none hV
  have k0 := h0
  have lt0 : ∀ x ∈ p, x.block < W.heap.size := by obtain ⟨m, hm⟩ := k0; exact DataW.trod_lt m _ _ _ hm
  obtain ⟨A, len, cap, F, rfl, hF, hitems⟩ := open_items (hval 0 45 v0 rfl rfl) h0
  clear hA0 hval0
  refine (back_law A len cap F W hF hitems).mono fun e W' ⟨he, bel⟩ => ?_
  subst he
  exact ⟨_, rfl, _, _, _, [], _, [], hW', trodAll_mk1 (shut_bool Try.underlying4 _), trodAll_mk1 (Below.trod laidOut (by kernel_rfl) (of_decide_eq_true (by kernel_rfl)) k0 bel lt0), rfl, bel.frame _, fun h => by cases h⟩

/-- The statement. -/
theorem proved : Rows.NotchBackSaid :=
  OpenClaim.holds_of_wide 5 Try.f5 rfl rfl rfl rfl rfl rfl rfl ⟨rfl, rfl, rfl, rfl, rfl⟩ rfl rfl rfl rfl rfl (by kernel_rfl) Try.func5 (by kernel_rfl)
    (of_decide_eq_true (by kernel_rfl)) (by unfold Func.isWrapper; first | (rw [if_pos (by decide +kernel)]; kernel_rfl) | (rw [if_neg (by decide +kernel)]; exact ⟨rfl, rfl⟩))
    (fun os started H enc _ => lifted os started H enc)
#print axioms proved
end Go.Proofs.Ytkabibbmaekkfaa.notchBackDone
