/-
  LAYER 2: the program's cut, Open; and its four calls together.
-/
import Derived.Test.YtemekdoogocapaaDoorCastImplC
import Derived.Lib.SlBuf
import Derived.Laws.CopyOwn
namespace Go.Proofs.YtemekdoogocapaaDoor
open Go.RowKit

theorem TRow.take {w : World} {g : Nat} {l : List UInt8} (h : TRow w g l) (n : Nat) : TRow w g (l.take n) := by
  obtain ⟨T, cur, fr, h, h1, h2, hc⟩ := h
  have hle : (l.take n).length ≤ l.length := by rw [List.length_take]; omega
  refine ⟨T, cur, fr, h, by omega, by omega, fun j hj => ?_⟩
  rw [List.getElem_take]
  exact hc j (by omega)

/-- A text that is copied over a row of its length. -/
theorem copy_text {B g : Nat} {w0 : World} {xs : List Value} (l : List UInt8) (ty : TypeId) (hBg : B ≤ g) (h : w0.ownsRow B 5 1 (.slice (some ⟨g, 0, none⟩) l.length l.length) l.length xs) :
    ∃ w2, (Builtin.copy_ #[33, 9] ty #[.slice (some ⟨g, 0, none⟩) l.length l.length, .string (mk l)]).run Tryd.prog w0 = .ok (goInt l.length) w2 ∧ Below B w0 w2 ∧ TRow w2 g l := by
  rcases h.2 with ⟨he, _⟩ | ⟨g', cap, cur, he, _, hg, _, _, hcs, _⟩
  · cases he
  · cases he
    have hcs' : cur.size = l.length := by rw [hcs, Nat.mul_one]
    have hr := Lib.run_copy_row_string (P := Tryd.prog) w0 33 9 ty 5 g 0 l.length l.length (mk l) cur 5 Tryd.underlying33 (by kernel_rfl) hg (by rw [mk_size]; exact Nat.le_refl _) (by rw [mk_size, hcs']; omega)
    rw [mk_size] at hr
    refine ⟨_, hr, below_setRow (Below.refl _ _) hBg _, 5, _, _, setRow_heap w0 g cur _ _ _ hg, ?_, .inr rfl, fun j hj => ?_⟩
    · simp [Lib.byteCells, mk]
    · simp only [Lib.byteCells, mk, List.take_zero, List.nil_append, List.getElem?_toArray]
      rw [List.getElem?_append_left (by simpa using hj)]
      simp [hj]

set_option maxHeartbeats 1000000 in
theorem cut_any (l : List UInt8) (n : Nat) (w : World) (hn : n ≤ l.length) (hl : l.length ≤ 4294967296) :
    Calls Tryd.prog 22 #[.string (mk l), .int .i64 (n : Int)] w fun e w' => e = .returned (.string (mk (l.take n))) ∧ Below w.heap.size w w' := by
  obtain ⟨i0, hi, hz0, hz1, hz2⟩ := info_parts info_u8
  have HS : Hid ((((mk l).size : Nat) : Int) = (l.length : Int)) := Lib.hid (by rw [mk_size])
  have hnI : (n : Int) ≤ (l.length : Int) := by omega
  have hn0 : (0 : Int) ≤ (n : Int) := by omega
  have hN : (l.length : Int) ≤ 4294967296 := by omega
  have HCV : Hid (∀ w2 : World, TRow w2 w.heap.size l → (convert 33 9 (.slice (some ⟨w.heap.size, 0, none⟩) n n)).run Tryd.prog w2 = .ok (.string (mk (l.take n))) w2) := Lib.hid (fun w2 h => by
    have h2 : TRow w2 w.heap.size (l.take n) := h.take n
    have h3 := h2.text (c := n)
    rwa [List.length_take, Nat.min_eq_left hn] at h3)
  go_enter Tryd.func22, Tryd.ntmps22
  go_wp2_with (
    (at_make
     refine wpList_make_full _ rfl _ _ 33 rfl w.heap.size 5 i0 (.int .u8 0) 1 Tryd.underlying33 hi hz0 hz1 .i64 .i64 _ _ l.length rfl rfl HS.out HS.out (by rw [hz2]; omega) (by unfold maxLen; omega) (Nat.le_refl _) ?_
     intro w0 hown0 hg0
     obtain ⟨w2, hr, b2, ht⟩ := copy_text l 3 (Nat.le_refl _) hown0
     have hcv := HCV.out w2 ht
     have HB : Hid (Below w.heap.size w w2) := Lib.hid (((Below.refl _ w).grown hg0 (Nat.le_refl _) (fun k hk => by cases hk)).trans b2)
     clear hown0 hg0 b2 ht))
  go_ret
  exact ⟨rfl, HB.out⟩

set_option maxHeartbeats 1000000 in
theorem open_any (t : List UInt8) (w : World) (hT : Tab w) (hl : t.length ≤ 4294967296) :
    Calls Tryd.prog 15 #[.string (mk t)] w (OpenPost w t) := by
  have hs : ((mk t).size : Int) ≤ 4294967296 := by rw [mk_size]; omega
  by_cases h8 : t.length < 8
  · have h8I : (((mk t).size : Nat) : Int) - 8 < 0 := by rw [mk_size]; omega
    have HX : Hid (copen t = ([], false)) := Lib.hid (by unfold copen; rw [if_neg (by omega)])
    clear hT
    go_enter Tryd.func15, Tryd.ntmps15
    go_wp2_with fail
    go_quiet (fail)
    go_wp2_with fail
    go_ret2
    exact ⟨by rw [HX.out]; rfl, below_drewN (Below.refl _ _)⟩
  · have hd : decide ((((mk t).size : Nat) : Int) - 8 < 0) = false := by rw [mk_size]; simp; omega
    have h8I : 8 ≤ (((mk t).size : Nat) : Int) := by rw [mk_size]; omega
    have hle : (((mk t).size : Nat) : Int) - 8 ≤ (((mk t).size : Nat) : Int) := by omega
    have hto : ((((mk t).size : Nat) : Int) - 8).toNat = (mk t).size - 8 := by omega
    have hge : 0 ≤ (((mk t).size : Nat) : Int) - 8 := by omega
    have hul : (t.take (t.length - 8)).length = t.length - 8 := by rw [List.length_take]; omega
    have hvl : (t.drop (t.length - 8)).length = 8 := by rw [List.length_drop]; omega
    have E1 : (mk t).extract ((mk t).size - 8) (mk t).size = mk (t.drop (t.length - 8)) := by rw [mk_extract, mk_size, List.take_length]
    have E2 : (mk t).extract 0 ((mk t).size - 8) = mk (t.take (t.length - 8)) := by rw [mk_extract, mk_size, List.drop_zero]
    obtain ⟨z, hz⟩ : ∃ z : Int, z = ((val (t.drop (t.length - 8)) : Nat) : Int) := ⟨_, rfl⟩
    obtain ⟨y, hy⟩ : ∃ y : Int, y = ((crest (t.take (t.length - 8)) : Nat) : Int) := ⟨_, rfl⟩
    have C1 : Hid (∀ w, Calls Tryd.prog 20 #[.string ((mk t).extract ((mk t).size - 8) (mk t).size)] w fun e w' => e = .returned (.int .u64 z) ∧ w' = w) := Lib.hid (fun w => by
      rw [E1]
      refine (number_any _ w (by omega)).mono ?_
      rintro e w' ⟨q, hq, rfl, rfl⟩
      unfold Res at hq
      exact ⟨by rw [hz, ← hq], rfl⟩)
    have C2 : Hid (∀ m, Calls Tryd.prog 13 #[.string ((mk t).extract 0 ((mk t).size - 8))] (w.drewN m) fun e w' => e = .returned (.int .u64 y) ∧ ∃ k, w' = (w.drewN m).drewN k) := Lib.hid (fun m => by
      rw [E2, hy]
      exact rest_any _ _ hT.drewN (by omega))
    have hsp : t.take (t.length - 8) ++ t.drop (t.length - 8) = t := List.take_append_drop _ _
    by_cases he : z = y
    · have HX : Hid (copen t = (t.take (t.length - 8), true)) := Lib.hid (by
        have hc : cseal (t.take (t.length - 8)) = t := by
          unfold cseal
          have h1 : crest (t.take (t.length - 8)) = val (t.drop (t.length - 8)) := by omega
          rw [h1, digs_val 8 _ hvl, hsp]
        unfold copen; rw [if_pos ⟨by omega, hc⟩])
      have hne : (z != y) = false := by rw [he]; simp
      have C3 := Lib.hid (cut_any t (t.length - 8))
      have H8 := Lib.hid h8
      have HL := Lib.hid hl
      have HS : Hid ((((mk t).size : Nat) : Int) - 8 = ((t.length - 8 : Nat) : Int)) := Lib.hid (by rw [mk_size]; omega)
      clear hz hy he hsp hT E1 E2 h8 hl hul hvl
      go_enter Tryd.func15, Tryd.ntmps15
      go_wp2_with fail
      go_quiet ((first | (go_at_call 20; with_reducible exact Calls.quiet_of_same (C1.out _)) | (go_at_call 13; with_reducible exact Calls.quiet_of (C2.out _)) | (trace_state; fail)))
      go_wp2_with fail
      rw [HS.out]
      refine (C3.out _ (by omega) HL.out).mono ?_
      rintro e w1 ⟨rfl, b1⟩
      go_wp2_with fail
      go_ret2
      exact ⟨by rw [HX.out]; rfl, (below_drewN (Below.refl _ w)).trans b1⟩
    · have HX : Hid (copen t = ([], false)) := Lib.hid (by
        unfold copen
        rw [if_neg]
        rintro ⟨_, hc⟩
        apply he
        unfold cseal at hc
        have h1 := (List.append_inj' (hc.trans hsp.symm) (by rw [digs_length, hvl])).2
        rw [hz, hy, ← h1, val_eight (crest_lt _)])
      have hne : (z != y) = true := by simpa using he
      clear hz hy he hsp hT E1 E2 h8 hl hul hvl
      go_enter Tryd.func15, Tryd.ntmps15
      go_wp2_with fail
      go_quiet ((first | (go_at_call 20; with_reducible exact Calls.quiet_of_same (C1.out _)) | (go_at_call 13; with_reducible exact Calls.quiet_of (C2.out _)) | (trace_state; fail)))
      go_wp2_with fail
      go_ret2
      exact ⟨by rw [HX.out]; rfl, below_drewN (Below.refl _ _)⟩
end Go.Proofs.YtemekdoogocapaaDoor
