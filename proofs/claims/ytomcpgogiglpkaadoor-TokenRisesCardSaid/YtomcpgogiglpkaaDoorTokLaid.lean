/-
  LAYER 11: what the row's condition on the table of signs gives the walks, and that the program's own start meets it.
-/
import Derived.Test.YtomcpgogiglpkaaDoorLift
import Derived.Test.YtomcpgogiglpkaaDoorTie
import Derived.Test.YtomcpgogiglpkaaDoorTokSign
import Derived.LaidMore
import Derived.Stop.Joined
namespace Go.Proofs.YtomcpgogiglpkaaDoor
open Go.ChangeShapes Go.WideShapes Go.ChangeAt Go.RowKit

theorem gSigns : Tryd.prog.globalNamed "stepstone/token.signs" = some 1 := by kernel_rfl
theorem tSigns : (Tryd.prog.globals[1]?).map (·.type) = some 65 := by kernel_rfl
theorem cSigns : Tryd.prog.cellsOf 65 = 22 := by kernel_rfl
theorem cString : Tryd.prog.cellsOf 9 = 1 := by kernel_rfl
theorem str_of {s : ByteArray} {l : List UInt8} (h : s.data.toList = l) : Value.string s = .string (mk l) := by rw [← h, mk_of]

set_option maxRecDepth 100000 in
set_option maxHeartbeats 2000000 in
theorem cells_of_laid {W : World} (h : laidMet Tryd.prog [("stepstone/token.signs", Rows.laid_stepstone_token_signs)] W) : W.var? Tryd.prog "stepstone/token.signs" = some SG := by
  obtain ⟨ps, ⟨g, t, cs, fuel, p, q, hg, ht, hvar, hd, _, _⟩, _⟩ := h
  obtain rfl := Option.some.inj (gSigns.symm.trans hg)
  obtain rfl := Option.some.inj (tSigns.symm.trans ht)
  rw [hvar]
  congr 1
  obtain ⟨l⟩ := cs
  cases fuel with
  | zero => simp [DataW.trod] at hd
  | succ fuel =>
    simp only [DataW.trod, Tryd.underlying65, cSigns, cString] at hd
    split at hd
    · rename_i hl
      obtain ⟨c0, c1, c2, c3, c4, c5, c6, c7, c8, c9, c10, c11, c12, c13, c14, c15, c16, c17, c18, c19, c20, c21, rfl⟩ : ∃ c0 c1 c2 c3 c4 c5 c6 c7 c8 c9 c10 c11 c12 c13 c14 c15 c16 c17 c18 c19 c20 c21, l = [c0, c1, c2, c3, c4, c5, c6, c7, c8, c9, c10, c11, c12, c13, c14, c15, c16, c17, c18, c19, c20, c21] := by
        match l, hl with
        | [a0, a1, a2, a3, a4, a5, a6, a7, a8, a9, a10, a11, a12, a13, a14, a15, a16, a17, a18, a19, a20, a21], _ => exact ⟨a0, a1, a2, a3, a4, a5, a6, a7, a8, a9, a10, a11, a12, a13, a14, a15, a16, a17, a18, a19, a20, a21, rfl⟩
      have e : List.range 22 = [0, 1, 2, 3, 4, 5, 6, 7, 8, 9, 10, 11, 12, 13, 14, 15, 16, 17, 18, 19, 20, 21] := rfl
      rw [e] at hd
      simp only [Option.map_eq_some_iff, List.mapM_cons, List.mapM_nil, Option.bind_eq_bind, Option.bind_eq_some_iff, Option.pure_def, Option.some.injEq] at hd
      obtain ⟨xs, ⟨y0, h0, _, ⟨y1, h1, _, ⟨y2, h2, _, ⟨y3, h3, _, ⟨y4, h4, _, ⟨y5, h5, _, ⟨y6, h6, _, ⟨y7, h7, _, ⟨y8, h8, _, ⟨y9, h9, _, ⟨y10, h10, _, ⟨y11, h11, _, ⟨y12, h12, _, ⟨y13, h13, _, ⟨y14, h14, _, ⟨y15, h15, _, ⟨y16, h16, _, ⟨y17, h17, _, ⟨y18, h18, _, ⟨y19, h19, _, ⟨y20, h20, _, ⟨y21, h21, _, rfl, rfl⟩, rfl⟩, rfl⟩, rfl⟩, rfl⟩, rfl⟩, rfl⟩, rfl⟩, rfl⟩, rfl⟩, rfl⟩, rfl⟩, rfl⟩, rfl⟩, rfl⟩, rfl⟩, rfl⟩, rfl⟩, rfl⟩, rfl⟩, rfl⟩, rfl⟩, hx⟩ := hd
      obtain ⟨n0, e0, f0, _⟩ := DataW.trod_string Tryd.underlying9 h0
      obtain rfl : c0 = .string n0 := by simpa using e0
      subst f0
      obtain ⟨n1, e1, f1, _⟩ := DataW.trod_string Tryd.underlying9 h1
      obtain rfl : c1 = .string n1 := by simpa using e1
      subst f1
      obtain ⟨n2, e2, f2, _⟩ := DataW.trod_string Tryd.underlying9 h2
      obtain rfl : c2 = .string n2 := by simpa using e2
      subst f2
      obtain ⟨n3, e3, f3, _⟩ := DataW.trod_string Tryd.underlying9 h3
      obtain rfl : c3 = .string n3 := by simpa using e3
      subst f3
      obtain ⟨n4, e4, f4, _⟩ := DataW.trod_string Tryd.underlying9 h4
      obtain rfl : c4 = .string n4 := by simpa using e4
      subst f4
      obtain ⟨n5, e5, f5, _⟩ := DataW.trod_string Tryd.underlying9 h5
      obtain rfl : c5 = .string n5 := by simpa using e5
      subst f5
      obtain ⟨n6, e6, f6, _⟩ := DataW.trod_string Tryd.underlying9 h6
      obtain rfl : c6 = .string n6 := by simpa using e6
      subst f6
      obtain ⟨n7, e7, f7, _⟩ := DataW.trod_string Tryd.underlying9 h7
      obtain rfl : c7 = .string n7 := by simpa using e7
      subst f7
      obtain ⟨n8, e8, f8, _⟩ := DataW.trod_string Tryd.underlying9 h8
      obtain rfl : c8 = .string n8 := by simpa using e8
      subst f8
      obtain ⟨n9, e9, f9, _⟩ := DataW.trod_string Tryd.underlying9 h9
      obtain rfl : c9 = .string n9 := by simpa using e9
      subst f9
      obtain ⟨n10, e10, f10, _⟩ := DataW.trod_string Tryd.underlying9 h10
      obtain rfl : c10 = .string n10 := by simpa using e10
      subst f10
      obtain ⟨n11, e11, f11, _⟩ := DataW.trod_string Tryd.underlying9 h11
      obtain rfl : c11 = .string n11 := by simpa using e11
      subst f11
      obtain ⟨n12, e12, f12, _⟩ := DataW.trod_string Tryd.underlying9 h12
      obtain rfl : c12 = .string n12 := by simpa using e12
      subst f12
      obtain ⟨n13, e13, f13, _⟩ := DataW.trod_string Tryd.underlying9 h13
      obtain rfl : c13 = .string n13 := by simpa using e13
      subst f13
      obtain ⟨n14, e14, f14, _⟩ := DataW.trod_string Tryd.underlying9 h14
      obtain rfl : c14 = .string n14 := by simpa using e14
      subst f14
      obtain ⟨n15, e15, f15, _⟩ := DataW.trod_string Tryd.underlying9 h15
      obtain rfl : c15 = .string n15 := by simpa using e15
      subst f15
      obtain ⟨n16, e16, f16, _⟩ := DataW.trod_string Tryd.underlying9 h16
      obtain rfl : c16 = .string n16 := by simpa using e16
      subst f16
      obtain ⟨n17, e17, f17, _⟩ := DataW.trod_string Tryd.underlying9 h17
      obtain rfl : c17 = .string n17 := by simpa using e17
      subst f17
      obtain ⟨n18, e18, f18, _⟩ := DataW.trod_string Tryd.underlying9 h18
      obtain rfl : c18 = .string n18 := by simpa using e18
      subst f18
      obtain ⟨n19, e19, f19, _⟩ := DataW.trod_string Tryd.underlying9 h19
      obtain rfl : c19 = .string n19 := by simpa using e19
      subst f19
      obtain ⟨n20, e20, f20, _⟩ := DataW.trod_string Tryd.underlying9 h20
      obtain rfl : c20 = .string n20 := by simpa using e20
      subst f20
      obtain ⟨n21, e21, f21, _⟩ := DataW.trod_string Tryd.underlying9 h21
      obtain rfl : c21 = .string n21 := by simpa using e21
      subst f21
      simp [Rows.laid_stepstone_token_signs] at hx
      obtain ⟨⟨k0, k1, k2, k3, k4, k5, k6, k7, k8, k9, k10, k11, k12, k13, k14, k15, k16, k17, k18, k19, k20, k21⟩, _⟩ := hx
      rw [str_of k0, str_of k1, str_of k2, str_of k3, str_of k4, str_of k5, str_of k6, str_of k7, str_of k8, str_of k9, str_of k10, str_of k11, str_of k12, str_of k13, str_of k14, str_of k15, str_of k16, str_of k17, str_of k18, str_of k19, str_of k20, str_of k21]
      rfl
    · cases hd

/-- What the condition gives the walks. -/
theorem tab_of_laid {W : World} (h : laidMetH Tryd.prog [("stepstone/token.signs", Rows.laid_stepstone_token_signs)] W) : Tab W := by
  rw [MakeChecks.laidMetH_plain _ _ _ (by kernel_rfl)] at h
  have hv := cells_of_laid h
  intro i v hi
  rw [Nat.zero_add, World.var?_cell gSigns hv i]
  simpa using hi

/-- The program's own start meets the condition. -/
theorem door_met (os : Os) (args : Array Value) : laidMetH Tryd.prog [("stepstone/token.signs", Rows.laid_stepstone_token_signs)] ((World.doorLaid Tryd.prog 400 os).forCall (fun _ _ => 0) ⟨#[], args, []⟩).memory :=
  laidMetH_of_parts3 (fuel := 8) (laidMet_of_run' 8 (by kernel_rfl) (by kernel_rfl)) (by kernel_rfl) (by kernel_rfl)
end Go.Proofs.YtomcpgogiglpkaaDoor
