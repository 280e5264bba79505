/-
  LAYER 11: the document's answer: signs.
-/
import Derived.Test.YtomcpgogiglpkaaDoorTokSkip
import Derived.Test.YtomcpgogiglpkaaDoorTokTrim
import Derived.BigQuiet
namespace Go.Proofs.YtomcpgogiglpkaaDoor
open Go.RowKit

def ones : List UInt8 := [123, 125, 91, 93, 40, 41, 60, 62, 61, 43, 45, 42, 47, 126, 44, 59, 58]
theorem sgs_two : ∀ k, k < 5 → (sgs.getD k []).length = 2 := by decide
theorem sgs_one : ∀ k, k < 17 → sgs.getD (5 + k) [] = [bAt ones k] := by decide
theorem pre_two {r s : List UInt8} (hs : s.length = 2) (hr : 2 ≤ r.length) : Go.Lib.hasPrefix r s = (r.take 2 == s) := by
  match s, hs, r, hr with
  | [a, b], _, x :: y :: r, _ =>
    rw [Bool.eq_iff_iff]
    simp [Go.Lib.hasPrefix]
    constructor
    · rintro ⟨rfl, rfl⟩; exact ⟨rfl, rfl⟩
    · rintro ⟨rfl, rfl⟩; exact ⟨rfl, rfl⟩
theorem pre_short {r s : List UInt8} (hs : s.length = 2) (hr : r.length < 2) : Go.Lib.hasPrefix r s = false := by
  cases h : Go.Lib.hasPrefix r s
  · rfl
  · have := prefix_le h; omega
theorem pre_one {r : List UInt8} {c : UInt8} (hr : 0 < r.length) : Go.Lib.hasPrefix r [c] = ((bAt r 0).toNat == c.toNat) := by
  match r, hr with
  | x :: r, _ =>
    rw [Bool.eq_iff_iff]
    simp [Go.Lib.hasPrefix, bAt]
    constructor
    · rintro rfl; rfl
    · intro h; exact (UInt8.toNat_inj.1 h).symm

/-- A sign's length, and what memory the list of the long ones took. -/
def SignPost (v : Nat) (w : World) (e : Ending) (w' : World) : Prop := e = .returned (.int .i64 (v : Int)) ∧ Below w.heap.size w w'

set_option maxHeartbeats 2000000 in
theorem signR_any (l : List UInt8) (k0 : Nat) (i : Int) (hi : i = (k0 : Int)) (w : World) (hl : l.length ≤ 1099511627776) (hk0 : k0 < l.length) :
    Calls Tryd.prog 19 #[.string (mk l), .int .i64 i] w (SignPost (signL (l.drop k0)) w) := by
  subst hi
  have hs := mk_size l
  obtain ⟨r, hr⟩ : ∃ r, r = l.drop k0 := ⟨_, rfl⟩
  have hrl : r.length = l.length - k0 := by rw [hr, List.length_drop]
  rw [← hr]
  obtain ⟨R, hR⟩ : ∃ R, R = signL r := ⟨_, rfl⟩
  rw [← hR]
  have HR := Lib.hid (And.intro hr hR)
  clear hR hr
  go_enter Tryd.func19, Tryd.ntmps19
  go_wp2_with fail
  have hcell : ∀ k, k < 5 → (w.alloc (.cells #[.string ⟨#[61, 61]⟩, .string ⟨#[33, 61]⟩, .string ⟨#[60, 61]⟩, .string ⟨#[62, 61]⟩, .string ⟨#[43, 61]⟩] 9)).cell? ⟨w.heap.size, k, none⟩ = some (.string (mk (sgs.getD k []))) := by
    intro k hk
    rw [cell_alloc_at]
    have h5 : k = 0 ∨ k = 1 ∨ k = 2 ∨ k = 3 ∨ k = 4 := by omega
    rcases h5 with rfl | rfl | rfl | rfl | rfl <;> rfl
  have hb := (Below.refl w.heap.size w).alloc (Nat.le_refl _) (.cells #[.string ⟨#[61, 61]⟩, .string ⟨#[33, 61]⟩, .string ⟨#[60, 61]⟩, .string ⟨#[62, 61]⟩, .string ⟨#[43, 61]⟩] 9)
  generalize w.alloc (.cells #[.string ⟨#[61, 61]⟩, .string ⟨#[33, 61]⟩, .string ⟨#[60, 61]⟩, .string ⟨#[62, 61]⟩, .string ⟨#[43, 61]⟩] 9) = W1 at hcell hb ⊢
  have HC := Lib.hid hcell
  have HB := Lib.hid hb
  clear hcell hb
  go_loopw [6] (fun i wr => ∃ k n : Nat, k ≤ 5 ∧ i = .int .i64 (k : Int) ∧ wr = W1.drewN n ∧ sgn (sgs.drop k) r = R) (fun i _ => 5 - (intOf i).toNat)
  case atStart => exact ⟨0, 0, by omega, rfl, rfl, HR.out.2.symm⟩
  case round =>
    obtain ⟨k, n, hk, rfl, rfl, hj⟩ := hrel
    have HJ := Lib.hid hj
    clear hj
    have hk1 : (0 : Int) ≤ (k : Int) := by omega
    by_cases hlt : k < 5
    · have hk2 : (k : Int) < 5 := by omega
      have hst := sgn_step (k := k) (by omega) r
      have h2 := sgs_two k hlt
      have hc := HC.out k hlt
      obtain ⟨s, hss⟩ : ∃ s, s = sgs.getD k [] := ⟨_, rfl⟩
      rw [← hss] at hst h2 hc
      have HST := Lib.hid hst
      have H2 := Lib.hid h2
      have HLT := Lib.hid hlt
      clear hss hst h2 hlt
      by_cases h2l : k0 + 2 ≤ l.length
      · have g1 : (k0 : Int) + 2 ≤ (l.length : Int) := by omega
        have g0 : (0 : Int) ≤ (k0 : Int) := by omega
        have hE : (mk l).extract k0 (k0 + 2) = mk (r.take 2) := by
          rw [mk_extract, HR.out.1, List.drop_take]; congr 2; omega
        have hp := pre_two (r := r) H2.out (by omega)
        obtain ⟨q, hq⟩ : ∃ q, q = (r.take 2 == s) := ⟨_, rfl⟩
        have hqq : ((mk (r.take 2)).toList == (mk s).toList) = q := by rw [mk_eq, hq]
        rw [← hq] at hp
        have HP := Lib.hid hp
        clear hq hp
        have hd : decide ((k0 : Int) + 2 ≤ (l.length : Int)) = true := by simpa using g1
        go_wp2_with fail
        go_quiet (fail)
        go_wp2_with fail
        · have hq1 : q = true := by assumption
          go_ret
          refine ⟨?_, below_drewN (below_drewN HB.out _) _⟩
          rw [← HJ.out, HST.out, if_pos (by rw [HP.out]; exact hq1), H2.out]; rfl
        · have hq1 : q = false := by assumption
          go_roundw
          case rel => exact ⟨k + 1, _, by have := HLT.out; omega, by go_num, rfl, by rw [← HJ.out, HST.out, HP.out, hq1]; rfl⟩
          case measure => simp [intOf]; have := HLT.out; omega
      · have hd : decide ((k0 : Int) + 2 ≤ (l.length : Int)) = false := by
          have : ¬ (k0 : Int) + 2 ≤ (l.length : Int) := by omega
          simpa using this
        have g0 : (0 : Int) ≤ (k0 : Int) := by omega
        have hp := pre_short (r := r) H2.out (by omega)
        have HP := Lib.hid hp
        clear hp
        go_wp2_with fail
        go_quiet (fail)
        go_wp2_with fail
        go_roundw
        case rel => exact ⟨k + 1, _, by have := HLT.out; omega, by go_num, rfl, by rw [← HJ.out, HST.out, HP.out]; rfl⟩
        case measure => simp [intOf]; have := HLT.out; omega
    · obtain rfl : k = 5 := by omega
      go_wp2_with fail
      rw [show (⟨#[123, 125, 91, 93, 40, 41, 60, 62, 61, 43, 45, 42, 47, 126, 44, 59, 58]⟩ : ByteArray) = mk ones from rfl]
      have hone : (mk ones).size = 17 := rfl
      go_loopw [8] (fun i wr => ∃ k n : Nat, k ≤ 17 ∧ i = .int .i64 (k : Int) ∧ wr = W1.drewN n ∧ sgn (sgs.drop (5 + k)) r = R) (fun i _ => 17 - (intOf i).toNat)
      case atStart => exact ⟨0, n, by omega, rfl, rfl, HJ.out⟩
      case round =>
        obtain ⟨k, m, hk, rfl, rfl, hj⟩ := hrel
        have HJ2 := Lib.hid hj
        clear hj
        have hk1 : (0 : Int) ≤ (k : Int) := by omega
        by_cases hlt : k < 17
        · have hk2 : (k : Int) < 17 := by omega
          have g0 : (0 : Int) ≤ (k0 : Int) := by omega
          have g1 : (k0 : Int) < (l.length : Int) := by omega
          have hst := sgn_step (k := 5 + k) (by omega) r
          rw [sgs_one k hlt] at hst
          have hi1 : (mk l)[k0]'(by rw [mk_size]; exact hk0) = bAt l k0 := mk_get l k0 _
          have hi2 : (mk ones)[k]'(by rw [hone]; exact hlt) = bAt ones k := mk_get ones k _
          obtain ⟨q, hq⟩ : ∃ q, q = (((bAt l k0).toNat : Int) == ((bAt ones k).toNat : Int)) := ⟨_, rfl⟩
          have hp : Go.Lib.hasPrefix r [bAt ones k] = q := by
            rw [pre_one (by omega), HR.out.1, bAt_drop, hq, beq_cast]; rfl
          rw [hp] at hst
          have hqq := hq.symm
          have HST := Lib.hid hst
          have HLT := Lib.hid hlt
          clear hst hp hq
          go_wp2_with fail
          go_quiet (fail)
          go_wp2_with fail
          · have hq1 : q = true := by assumption
            go_ret
            refine ⟨?_, below_drewN (below_drewN HB.out _) _⟩
            rw [← HJ2.out, HST.out, if_pos hq1]; rfl
          · have hq1 : q = false := by assumption
            go_roundw
            case rel => exact ⟨k + 1, _, by have := HLT.out; omega, by go_num, rfl, by rw [← HJ2.out, HST.out, hq1]; rfl⟩
            case measure => simp [intOf]; have := HLT.out; omega
        · obtain rfl : k = 17 := by omega
          go_wp2_with fail
          go_ret
          refine ⟨?_, below_drewN HB.out _⟩
          rw [← HJ2.out]; rfl
end Go.Proofs.YtomcpgogiglpkaaDoor
