/-
  Num, Text and Long answer the document's bytes, of any numbers, and any text: the law NotchNums returns true for every input, and leaves its arguments as they were. No condition.
-/
import Derived.Test.YtkabibbmaekkfaaNotchLift
import Derived.Test.YtkabibbmaekkfaaNotchNumsW
namespace Go.Proofs.Ytkabibbmaekkfaa.notchNumsDone
open Go.ChangeShapes Go.WideShapes Go.ChangeAt Go.RowKit Go.Joins
open Go.ChangeMaps (open_string shut_string)
set_option linter.unusedVariables false

theorem nums_law (s : ByteArray) (A : Option Addr) (len cap : Nat) (z : Nat → Int) (w : World) (hwf : ∀ i, (Lit.int .u64 (z i)).wf = true) (hc : Cells .u64 w A len z) :
    Calls Try.prog 3 #[.slice A len cap, .string s] w fun e w' => e = .returned (.bool true) ∧ Below w.heap.size w w' := by
  by_cases hl : 50 < len
  · exact nums_long s A len cap w (.inl hl)
  · by_cases hs : 70000 < s.size
    · exact nums_long s A len cap w (.inr ⟨by omega, hs⟩)
    · obtain ⟨l, rfl⟩ : ∃ l, s = mk l := ⟨s.data.toList, (mk_of s).symm⟩
      rw [mk_size] at hs
      have hz : ∀ i, z i = ((z i).toNat : Int) ∧ (z i).toNat < 2 ^ 64 := fun i => by
        obtain ⟨n, e, h⟩ := nat_of_u64 (hwf i)
        rw [e]; simp; exact h
      obtain ⟨L, hL, hg⟩ : ∃ L : List Nat, L.length = len ∧ ∀ i, i < len → L.getD i 0 = (z i).toNat :=
        ⟨(List.range len).map (fun i => (z i).toNat), by simp, fun i hi => by simp [hi]⟩
      subst hL
      refine nums_any l A cap L w (by omega) (by omega) (fun n hn => ?_) (fun i hi => ?_)
      · obtain ⟨i, hi, rfl⟩ := List.getElem_of_mem hn
        have h1 := hg i hi
        rw [List.getD_eq_getElem?_getD, List.getElem?_eq_getElem hi] at h1
        have h2 : L[i] = (z i).toNat := h1
        rw [h2]; exact (hz i).2
      · obtain ⟨b, off, e, hb, hcell⟩ := hc i hi
        exact ⟨b, off, e, hb, by rw [hcell, hg i hi, ← (hz i).1]⟩

set_option maxRecDepth 100000 in
theorem lifted (os : Os) (started : os.Started) (H : Type) (enc : TypeId × Value → H) :
    ReturnsInHanded {} Try.checked os 3 .any (Rows.notchNumsSpec.pre6 enc Try.prog Try.f3 Rows.notchNumsRow.domain false) (Rows.notchNumsSpec.post enc Try.prog Try.f3 false true false false) := by
  refine returnsInHanded_of_change (C := Try.checked) own started (by kernel_rfl) Try.func3
    (ChangeSpec.witness6 (enc := enc) (C := Try.checked) false ⟨#[], #[.slice none 0 0, .string ⟨#[]⟩], []⟩ 8 (by kernel_rfl) (by kernel_rfl) (by kernel_rfl) (by kernel_rfl)) ?_
  intro W base args ds gs before hval0 hW hcnd _
  have hval : ∀ (j : Nat) t v, Try.f3.params[j]? = some t → args[j]? = some v → Value.okWide Try.prog W .any base t v := hval0
  have hW' := hW
  obtain ⟨p, q, hA0, hV, rfl, hfz, hnd⟩ := hW
  have hA : DataW.TrodAll enc Try.prog W 0 (fun _ => true) true Try.f3.params.toList args.toList ds p := hA0
  rw [Try.params3] at hA hval
  obtain ⟨v0, v1, d0, d1, p0, p1, rfl, rfl, rfl, h0, h1⟩ := trodAll_two hA
  obtain ⟨rfl, rfl⟩ := trodVars_none hV
  have k0 := h0
  have lt0 : ∀ x ∈ p0, x.block < W.heap.size := by obtain ⟨m, hm⟩ := k0; exact DataW.trod_lt m _ _ _ hm
  have k1 := h1
  have lt1 : ∀ x ∈ p1, x.block < W.heap.size := by obtain ⟨m, hm⟩ := k1; exact DataW.trod_lt m _ _ _ hm
  obtain ⟨A, len, cap, z, rfl, hlen, hwf, hcells⟩ := open_cells (k := .u64) Try.underlying22 Try.underlying25 (by kernel_rfl) (hval 0 22 v0 rfl rfl) h0
  obtain ⟨s, rfl, _, _, _⟩ := open_string Try.underlying9 (hval 1 9 v1 rfl rfl) h1
  clear hA0 hval0
  refine (nums_law s A len cap z W hwf hcells).mono fun e W' ⟨he, bel⟩ => ?_
  subst he
  exact ⟨_, rfl, _, _, _, [], _, [], hW', trodAll_mk1 (shut_bool Try.underlying4 _), trodAll_mk2 (Below.trod laidOut (by kernel_rfl) (of_decide_eq_true (by kernel_rfl)) k0 bel lt0) (Below.trod laidOut (by kernel_rfl) (of_decide_eq_true (by kernel_rfl)) k1 bel lt1), rfl, bel.frame _, fun h => by cases h⟩

/-- The statement. -/
theorem proved : Rows.NotchNumsSaid :=
  OpenClaim.holds_of_wide 3 Try.f3 rfl rfl rfl rfl rfl rfl rfl ⟨rfl, rfl, rfl, rfl, rfl⟩ rfl rfl rfl rfl rfl (by kernel_rfl) Try.func3 (by kernel_rfl)
    (of_decide_eq_true (by kernel_rfl)) (by unfold Func.isWrapper; first | (rw [if_pos (by decide +kernel)]; kernel_rfl) | (rw [if_neg (by decide +kernel)]; exact ⟨rfl, rfl⟩))
    (fun os started H enc _ => lifted os started H enc)
#print axioms proved
end Go.Proofs.Ytkabibbmaekkfaa.notchNumsDone
