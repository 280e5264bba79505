/-
  LAYER 3: the texts NatDividesP, one behind the other.
-/
import Derived.Test.YtcdedaihkfpafaaNatC2
import Derived.Test.YtcdedaihkfpafaaNatD5

namespace Go.Proofs.Ytcdedaihkfpafaa.natDividesDone
open Go.ChangeShapes Go.WideShapes Go.ChangeAt Go.RowKit Go.Joins
open Go.ChangeMaps (open_string shut_string)
set_option linter.unusedVariables false

theorem divides_law (A B : Option Addr) (ca cb : Nat) (L M : List Nat) (j : Int) (w : World) (hcl : L.length ≤ ca) (hcm : M.length ≤ cb) (hnl : A = none → ca = 0) (hnm : B = none → cb = 0)
    (fL : Fits L) (fM : Fits M) (mL : NatAt w A L) (mM : NatAt w B M) :
    Calls Try.prog 3 #[.slice A L.length ca, .slice B M.length cb, .int .i64 j] w fun e w' => e = .returned (.bool true) ∧ Below w.heap.size w w' := by
  by_cases h : 6 < L.length ∨ 6 < M.length
  · exact divides_great A B _ _ ca cb j w h
  · have hL : L.length ≤ 6 := by omega
    have hM : M.length ≤ 6 := by omega
    have a6 : NNum 6 w (.slice A L.length ca) (lv L) := NNum.of_arg hcl hnl fL mL hL
    have b6 : NNum 6 w (.slice B M.length cb) (lv M) := NNum.of_arg hcm hnm fM mM hM
    by_cases hj : 500 < j ∨ j < -500
    · exact divides_far A B _ _ ca cb j w hL hM hj
    · by_cases hz : lv M = 0
      · by_cases hn : j < 0
        · exact divides_zn A B _ _ ca cb (lv L) (lv M) hz j hn (by omega) w hL hM a6 b6
        · obtain ⟨s, rfl⟩ := Int.eq_ofNat_of_zero_le (by omega : 0 ≤ j)
          exact divides_zp A B _ _ ca cb (lv L) (lv M) hz s (by omega) w hL hM a6 b6
      · by_cases hn : j < 0
        · exact divides_pn A B _ _ ca cb (lv L) (lv M) hz j hn (by omega) w hL hM a6 b6
        · obtain ⟨s, rfl⟩ := Int.eq_ofNat_of_zero_le (by omega : 0 ≤ j)
          exact divides_pp A B _ _ ca cb (lv L) (lv M) hz s (by omega) w hL hM a6 b6

set_option maxRecDepth 100000 in
theorem lifted (os : Os) (started : os.Started) (H : Type) (enc : TypeId × Value → H) :
    ReturnsInHanded {} Try.checked os 3 .any (Rows.natDividesSpec.pre6 enc Try.prog Try.f3 Rows.natDividesRow.domain false) (Rows.natDividesSpec.post enc Try.prog Try.f3 false true false false) := by
  refine returnsInHanded_of_change (C := Try.checked) own started (by kernel_rfl) Try.func3
    (ChangeSpec.witness6 (enc := enc) (C := Try.checked) false ⟨#[], #[.slice none 0 0, .slice none 0 0, .int .i64 0], []⟩ 8 (by kernel_rfl) (by kernel_rfl) (by kernel_rfl) (by kernel_rfl)) ?_
  intro W base args ds gs before hval0 hW hcnd _
  have hval : ∀ (j : Nat) t v, Try.f3.params[j]? = some t → args[j]? = some v → Value.okWide Try.prog W .any base t v := hval0
  have hW' := hW
  obtain ⟨p, q, hA0, hV, rfl, hfz, hnd⟩ := hW
  have hA : DataW.TrodAll enc Try.prog W 0 (fun _ => true) true Try.f3.params.toList args.toList ds p := hA0
  rw [Try.params3] at hA hval
  obtain ⟨v0, v1, v2, d0, d1, d2, p0, p1, p2, rfl, rfl, rfl, h0, h1, h2⟩ := trodAll_three hA
  obtain ⟨rfl, rfl⟩ := trodVars_none hV
  have k0 := h0
  have lt0 : ∀ x ∈ p0, x.block < W.heap.size := by obtain ⟨m, hm⟩ := k0; exact DataW.trod_lt m _ _ _ hm
  have k1 := h1
  have lt1 : ∀ x ∈ p1, x.block < W.heap.size := by obtain ⟨m, hm⟩ := k1; exact DataW.trod_lt m _ _ _ hm
  have k2 := h2
  have lt2 : ∀ x ∈ p2, x.block < W.heap.size := by obtain ⟨m, hm⟩ := k2; exact DataW.trod_lt m _ _ _ hm
  obtain ⟨A0, cap0, L0, rfl, hcap0, hlen0, hn0, hf0, hat0⟩ := open_nat (hval 0 23 v0 rfl rfl) h0
  obtain ⟨A1, cap1, L1, rfl, hcap1, hlen1, hn1, hf1, hat1⟩ := open_nat (hval 1 23 v1 rfl rfl) h1
  obtain ⟨j, rfl, _, _, wj⟩ := open_int Try.underlying3 (hval 2 3 v2 rfl rfl) h2
  clear hA0 hval0
  refine (divides_law A0 A1 cap0 cap1 L0 L1 j W hcap0 hcap1 hn0 hn1 hf0 hf1 hat0 hat1).mono fun e W' ⟨he, bel⟩ => ?_
  subst he
  exact ⟨_, rfl, _, _, _, [], _, [], hW', trodAll_mk1 (shut_bool Try.underlying4 _), trodAll_mk3 (Below.trod laidOut (by kernel_rfl) (of_decide_eq_true (by kernel_rfl)) k0 bel lt0) (Below.trod laidOut (by kernel_rfl) (of_decide_eq_true (by kernel_rfl)) k1 bel lt1) (Below.trod laidOut (by kernel_rfl) (of_decide_eq_true (by kernel_rfl)) k2 bel lt2), rfl, bel.frame _, fun h => by cases h⟩

/-- The statement. -/
theorem proved : Rows.NatDividesSaid :=
  OpenClaim.holds_of_wide 3 Try.f3 rfl rfl rfl rfl rfl rfl rfl ⟨rfl, rfl, rfl, rfl, rfl⟩ rfl rfl rfl rfl rfl (by kernel_rfl) Try.func3 (by kernel_rfl)
    (of_decide_eq_true (by kernel_rfl)) (by unfold Func.isWrapper; first | (rw [if_pos (by decide +kernel)]; kernel_rfl) | (rw [if_neg (by decide +kernel)]; exact ⟨rfl, rfl⟩))
    (fun os started H enc _ => lifted os started H enc)
#print axioms proved
end Go.Proofs.Ytcdedaihkfpafaa.natDividesDone
