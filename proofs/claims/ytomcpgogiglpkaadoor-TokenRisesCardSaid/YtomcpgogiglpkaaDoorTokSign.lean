/-
  LAYER 11: the program: signs, by its table; the next line; blanks and comments; the token that bytes begin with.
-/
import Derived.Test.YtomcpgogiglpkaaDoorTokEnds
import Derived.Deep.MidRow
namespace Go.Proofs.YtomcpgogiglpkaaDoor
open Go.RowKit

/-- The program's table, as a value. -/
def SG : Array Value := (sgs.map fun s => Value.string (mk s)).toArray
theorem SG_size : SG.toList.length = 22 := by simp [SG, sgs]

/-- The table's cells hold what the program's text lays. -/
def Tab (w : World) : Prop := w.rangeAt 1 0 SG.toList
theorem Tab.below {w w' : World} (h : Tab w) (b : Below w.heap.size w w') : Tab w' := fun j v hv =>
  (b.cell (p := ⟨1, 0 + j, none⟩) (World.block_lt_of_cell? w _ (h j v hv))).trans (h j v hv)
theorem Tab.drewN {w : World} {n : Nat} (h : Tab w) : Tab (w.drewN n) := fun j v hv => by
  rw [← h j v hv]; simp
theorem info_signs : (Tryd.prog.info? 65).map (·.size) = some SG.toList.length := by rw [SG_size]; kernel_rfl
theorem wpList_load_tab {w : World} (h : Tab w) {ops : Array Oper} {rest : List Oper} {op : Oper} {a : Act} {Q : Exit → Act → World → Prop} (hgd : op.guard = none) (ho : op.op = .load 65 (.global 1))
    (hk : wpList Tryd.prog ops Q rest (a.put op.dst (.agg SG)) w) : wpList Tryd.prog ops Q (op :: rest) a w :=
  wpList_load_mid hgd 65 _ ho 1 0 rfl SG.toList _ h Tryd.underlying65 rfl info_signs (by simpa using hk)
theorem tab_index (k : Nat) (hk : k < 22) (w : World) : (Instr.index 65 (.agg SG) (.int .i64 (k : Int))).run Tryd.prog w = .ok (.string (mk (sgs.getD k []))) w := by
  have h1 : (0 : Int) ≤ (k : Int) ∧ (k : Int) < 22 := by omega
  have e : SG[k]? = some (.string (mk (sgs.getD k []))) := by
    have hl : k < sgs.length := by simp [sgs]; omega
    simp [SG, List.getD_eq_getElem?_getD, List.getElem?_eq_getElem hl]
  simp [Instr.index, asIntOf, run_underlying Tryd.underlying65, h1, go_sem]
  rw [if_pos hk, e]
  simp [go_sem]

theorem sgn_step {k : Nat} (hk : k < 22) (l : List UInt8) : sgn (sgs.drop k) l = if Go.Lib.hasPrefix l (sgs.getD k []) then (sgs.getD k []).length else sgn (sgs.drop (k + 1)) l := by
  have hl : k < sgs.length := by simp [sgs]; omega
  rw [List.drop_eq_getElem_cons hl, List.getD_eq_getElem?_getD, List.getElem?_eq_getElem hl]
  rfl

/-- A prefix's arm: either way. -/
theorem hasPrefix_two (l s : List UInt8) (w : World) : Calls Tryd.prog 35 #[.string (mk l), .string (mk s)] w fun e w' =>
    (e = .returned (.bool true) ∧ Hid (Go.Lib.hasPrefix l s = true) ∧ w = w') ∨ (e = .returned (.bool false) ∧ Hid (Go.Lib.hasPrefix l s = false) ∧ w = w') := by
  refine (Tryd.strings_HasPrefix (mk l) (mk s) w).mono ?_
  rintro e w' ⟨rfl, rfl⟩
  rw [mk_toList, mk_toList]
  cases h : Go.Lib.hasPrefix l s
  · exact .inr ⟨rfl, Lib.hid rfl, rfl⟩
  · exact .inl ⟨rfl, Lib.hid rfl, rfl⟩

set_option maxHeartbeats 1000000 in
theorem sign_any (l : List UInt8) (w : World) (hT : Tab w) :
    Calls Tryd.prog 39 #[.string (mk l)] w (Says (.int .i64 ((signL l : Nat) : Int)) w) := by
  have HN : Hid (sgn sgs l = signL l) := rfl
  go_enter Tryd.func39, Tryd.ntmps39
  go_wp2_with (refine wpList_load_tab hT rfl rfl ?_)
  go_loop [6] (fun i => ∃ k : Nat, k ≤ 22 ∧ i = .int .i64 (k : Int) ∧ sgn (sgs.drop k) l = signL l) (fun i => 22 - (intOf i).toNat)
  case atStart => exact ⟨0, by omega, rfl, HN.out⟩
  case round =>
    obtain ⟨k, hk, rfl, hj⟩ := hrel
    have HJ := Lib.hid hj
    clear hj
    by_cases hlt : k < 22
    · have hk0 : (k : Int) < 22 := by omega
      have hidx := tab_index k hlt w
      have HS := Lib.hid (sgn_step hlt l)
      have HL := Lib.hid hlt
      obtain ⟨s, hs⟩ : ∃ s, s = sgs.getD k [] := ⟨_, rfl⟩
      rw [← hs] at hidx HS
      have hsz := mk_size s
      clear hs hlt
      go_wp2_with (go_at_call 35; refine (hasPrefix_two _ _ _).mono ?_; rintro e w' (⟨rfl, hz, rfl⟩ | ⟨rfl, hz, rfl⟩))
      · go_ret
        refine ⟨?_, rfl⟩
        rw [← HJ.out, HS.out, if_pos hz.out]; rfl
      · go_round
        case rel => exact ⟨k + 1, by have := HL.out; omega, by go_num, by rw [← HJ.out, HS.out, hz.out]; rfl⟩
        case measure => simp [intOf]; omega
    · obtain rfl : k = 22 := by omega
      go_wp2_with fail
      go_ret
      exact ⟨by rw [← HJ.out]; rfl, rfl⟩
end Go.Proofs.YtomcpgogiglpkaaDoor
