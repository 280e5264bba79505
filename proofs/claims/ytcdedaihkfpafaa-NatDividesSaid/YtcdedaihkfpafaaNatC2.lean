/-
  LAYER 3: the texts NatLaw, Lift, NatOpen, one behind the other.
-/
import Derived.Test.YtcdedaihkfpafaaNatC1
import Derived.Test.YtcdedaihkfpafaaRows
import Derived.ProofKit
import Derived.OpenShut
import Derived.ShutString
import Derived.ChangeOld
import Derived.Below
import Derived.Carry
import Derived.Lib.SmallJoins
import Derived.Deep.Slices

namespace Go.Proofs.Ytcdedaihkfpafaa
open Go.RowKit

set_option maxHeartbeats 1000000 in
theorem great_any (a b c : Option Addr) (la lb lc ca cb cc : Nat) (w : World) :
    Calls Try.prog 6 #[.slice a la ca, .slice b lb cb, .slice c lc cc] w (Same (.bool (decide (6 < la) || (decide (6 < lb) || decide (6 < lc)))) w) := by
  by_cases h1 : 6 < la
  · have e : (decide (6 < la) || (decide (6 < lb) || decide (6 < lc))) = true := by simp [h1]
    have i1 : (6 : Int) < (la : Int) := by omega
    rw [e]
    clear e h1
    go_enter Try.func6, Try.ntmps6
    go_wp2
    go_ret
    exact ⟨rfl, rfl⟩
  · have i1 : ¬ (6 : Int) < (la : Int) := by omega
    have d1 : decide ((6 : Int) < (la : Int)) = false := by simp; omega
    by_cases h2 : 6 < lb
    · have e : (decide (6 < la) || (decide (6 < lb) || decide (6 < lc))) = true := by simp [h2]
      have i2 : (6 : Int) < (lb : Int) := by omega
      rw [e]
      clear e h1 h2
      go_enter Try.func6, Try.ntmps6
      go_wp2
      go_ret
      exact ⟨rfl, rfl⟩
    · have i2 : ¬ (6 : Int) < (lb : Int) := by omega
      have d2 : decide ((6 : Int) < (lb : Int)) = false := by simp; omega
      have e : (decide (6 < la) || (decide (6 < lb) || decide (6 < lc))) = decide (6 < lc) := by simp [h1, h2]
      rw [e]
      by_cases h3 : 6 < lc
      · have i3 : (6 : Int) < (lc : Int) := by omega
        have e3 : decide (6 < lc) = true := by simpa using h3
        rw [e3]
        clear e e3 h1 h2 h3
        go_enter Try.func6, Try.ntmps6
        go_wp2
        go_ret
        exact ⟨rfl, rfl⟩
      · have i3 : ¬ (6 : Int) < (lc : Int) := by omega
        have d3 : decide ((6 : Int) < (lc : Int)) = false := by simp; omega
        have e3 : decide (6 < lc) = false := by simpa using h3
        rw [e3]
        clear e e3 h1 h2 h3
        go_enter Try.func6, Try.ntmps6
        go_wp2
        go_ret
        exact ⟨rfl, rfl⟩

/-- What is told, as a number of K limbs. -/
theorem ERes.num {B K n : Nat} {w w' : World} {e : Ending} (h : ERes B n w e w') (hK : n < 2 ^ (64 * K)) : ∃ v, e = .returned (.tuple #[v, .int .i64 0]) ∧ NNum K w' v n ∧ Below B w w' := by
  obtain ⟨v, he, hr, hb⟩ := h
  exact ⟨v, he, hr.numN hK, hb⟩
theorem short_of {K n : Nat} (h : n < 2 ^ (64 * K)) (hK : K ≤ 2048) : Short n := Nat.le_trans (nrow_length_le h) hK
theorem add_lt {K a b : Nat} (ha : a < 2 ^ (64 * K)) (hb : b < 2 ^ (64 * K)) : a + b < 2 ^ (64 * (K + 1)) := by
  rw [show 64 * (K + 1) = 64 * K + 64 by omega, Nat.pow_add]; omega
theorem mul_lt {K K' a b : Nat} (ha : a < 2 ^ (64 * K)) (hb : b < 2 ^ (64 * K')) : a * b < 2 ^ (64 * (K + K')) := by
  rw [Nat.mul_add, Nat.pow_add]
  exact Nat.mul_lt_mul'' ha hb

section
variable {K K' : Nat} {w : World} {va vb : Value} {na nb : Nat}
def Told (K n : Nat) (w : World) (e : Ending) (w' : World) : Prop := ∃ v, e = .returned (.tuple #[v, .int .i64 0]) ∧ NNum K w' v n ∧ Below w.heap.size w w'
theorem add_t (ha : NNum K w va na) (hb : NNum K w vb nb) (hK : K + 1 ≤ 2048) : Calls Try.prog 21 #[va, vb] w (Told (K + 1) (na + nb) w) :=
  (add_p ha hb (by omega) (by omega) (short_of ha.lt (by omega)) (short_of hb.lt (by omega)) (short_of (add_lt ha.lt hb.lt) hK)).mono fun _ _ h => h.num (add_lt ha.lt hb.lt)
theorem mul_t (ha : NNum K w va na) (hb : NNum K' w vb nb) (hK : K + K' ≤ 2048) : Calls Try.prog 20 #[va, vb] w (Told (K + K') (na * nb) w) :=
  (mul_p ha hb hK).mono fun _ _ h => h.num (mul_lt ha.lt hb.lt)
theorem sub_t (ha : NNum K w va na) (hb : NNum K' w vb nb) (hK : K ≤ 2048) (hK' : K' ≤ 2048) (hle : nb ≤ na) : Calls Try.prog 26 #[va, vb] w (Told K (na - nb) w) :=
  (sub_p ha hb (by omega) (by omega) (short_of ha.lt hK) hle).mono fun _ _ h => h.num (Nat.lt_of_le_of_lt (Nat.sub_le _ _) ha.lt)
theorem cmp_t (ha : NNum K w va na) (hb : NNum K' w vb nb) (hK : K ≤ 2048) (hK' : K' ≤ 2048) : Calls Try.prog 23 #[va, vb] w (CmpAnd na nb w) := cmp_p ha hb (by omega) (by omega)
theorem cmpV_same (n : Nat) : cmpV n n = 0 := by unfold cmpV; simp
end
end Go.Proofs.Ytcdedaihkfpafaa

namespace Go.Proofs.Ytcdedaihkfpafaa
open Go.ChangeShapes Go.WideShapes Go.ChangeAt Go.RowKit

theorem own : ownKnob Try.prog.godebug = none := by kernel_rfl
theorem laidOut : laidOutB Try.prog = true := by kernel_rfl

/-- A number that fits a uint64. -/
theorem nat_of_u64 {x : Int} (h : (Lit.int .u64 x).wf = true) : ∃ n : Nat, x = (n : Int) ∧ n < 2 ^ 64 := by
  have h2 : 0 ≤ x ∧ x < 2 ^ 64 := by
    simp [Lit.wf, IntKind.min, IntKind.max, IntKind.signed, IntKind.bits] at h
    omega
  obtain ⟨n, rfl⟩ := Int.eq_ofNat_of_zero_le h2.1
  exact ⟨n, rfl, by omega⟩
theorem nat_of_u8 {x : Int} (h : (Lit.int .u8 x).wf = true) : ∃ n : Nat, x = (n : Int) ∧ n < 256 := by
  have h2 : 0 ≤ x ∧ x < 256 := by
    simp [Lit.wf, IntKind.min, IntKind.max, IntKind.signed, IntKind.bits] at h
    omega
  obtain ⟨n, rfl⟩ := Int.eq_ofNat_of_zero_le h2.1
  exact ⟨n, rfl, by omega⟩
theorem range_of_i64 {x : Int} (h : (Lit.int .i64 x).wf = true) : -9223372036854775808 ≤ x ∧ x ≤ 9223372036854775807 := by
  simp [Lit.wf, IntKind.min, IntKind.max, IntKind.signed, IntKind.bits] at h
  omega

/-- What a walk is told of a slice of one-cell numbers: each place below its length holds one. -/
def Cells (k : IntKind) (w : World) (A : Option Addr) (len : Nat) (z : Nat → Int) : Prop :=
  ∀ i, i < len → ∃ b off, A = some ⟨b, off, none⟩ ∧ b < w.heap.size ∧ w.cell? ⟨b, off + i, none⟩ = some (.int k (z i))

theorem wf_zero (k : IntKind) : (Lit.int k 0).wf = true := by cases k <;> rfl

theorem open_cells {H : Type} {enc : TypeId × Value → H} {P : Program} {W : World} {k : IntKind} {T E : TypeId} {b0 : Nat} {v : Value} {d : DataW H} {p : List MemPlace} (hT : P.underlying T = some (.slice E)) (hE : P.underlying E = some (.int k)) (hC : P.cellsOf E = 1)
    (hv : Value.okWide P W .any b0 T v) (h : DataW.Trod enc P W 0 (fun _ => true) true T v d p) :
    ∃ A len cap z, v = .slice A len cap ∧ len ≤ 9223372036854775807 ∧ (∀ i, (Lit.int k (z i)).wf = true) ∧ Cells k W A len z := by
  obtain ⟨A, len, cap, rfl⟩ := okWide_slice hT hv
  obtain ⟨fuel, hf⟩ := h
  rcases open_ints hT hE hC hf with ⟨hcs, _⟩ | ⟨a, l, c, zs, hcs, _, hl, hm, hz, _, hcell, hwz⟩
  · simp [Value.cells] at hcs
    obtain ⟨rfl, rfl, rfl⟩ := hcs
    exact ⟨_, _, _, fun _ => 0, rfl, by omega, fun _ => wf_zero k, fun i hi => absurd hi (by omega)⟩
  · simp [Value.cells] at hcs
    obtain ⟨rfl, rfl, rfl⟩ := hcs
    unfold maxLen at hm
    refine ⟨_, _, _, fun i => zs.getD i 0, rfl, by omega, fun i => ?_, fun i hi => ?_⟩
    · show (Lit.int k (zs.getD i 0)).wf = true
      rcases Nat.lt_or_ge i zs.length with h | h
      · rw [List.getD_eq_getElem?_getD, List.getElem?_eq_getElem h]
        exact hwz _ (List.getElem_mem h)
      · rw [List.getD_eq_getElem?_getD, List.getElem?_eq_none h]
        exact wf_zero k
    · have hzl : i < zs.length := by simp at hz; omega
      obtain ⟨b, off, rfl, hc⟩ := ints_at hcell (by omega)
      have h1 := hc i hzl
      exact ⟨b, off, rfl, World.block_lt_of_cell? W _ h1, h1⟩

/-- What a walk is told of a slice whose elements lie in K cells each: the elements' cells, one behind the other, and each element's own reading. -/
theorem open_rows {H : Type} {enc : TypeId × Value → H} {P : Program} {W : World} {T E K : Nat} {b0 : Nat} {v : Value} {d : DataW H} {p : List MemPlace} (hT : P.underlying T = some (.slice E)) (hC : P.cellsOf E = K) (hK : 0 < K)
    (hv : Value.okWide P W .any b0 T v) (h : DataW.Trod enc P W 0 (fun _ => true) true T v d p) :
    ∃ A len cap, v = .slice A len cap ∧ len ≤ 9223372036854775807 ∧ ∀ i, i < len → ∃ (b off : Nat) (cs : List Value) (n : Nat) (x : DataW H × List MemPlace), A = some ⟨b, off, none⟩ ∧ b < W.heap.size ∧ cs.length = K ∧
      (∀ j, j < K → W.cell? ⟨b, off + i * K + j, none⟩ = cs[j]?) ∧ DataW.trod enc P W 0 (fun _ => true) true n E cs = some x := by
  obtain ⟨A, len, cap, rfl⟩ := okWide_slice hT hv
  obtain ⟨fuel, hf⟩ := h
  rcases Go.Deep.open_slice hT hf with ⟨hcs, _⟩ | ⟨a, l, c, m, n, D, Pl, hcs, _, hl, hm, hmm, _, hel⟩
  · simp [Value.cells] at hcs
    obtain ⟨rfl, rfl, rfl⟩ := hcs
    exact ⟨_, _, _, rfl, by omega, fun i hi => absurd hi (by omega)⟩
  · simp [Value.cells] at hcs
    obtain ⟨rfl, rfl, rfl⟩ := hcs
    unfold maxLen at hm
    simp only [if_true] at hmm
    rw [hC] at hel
    refine ⟨_, _, _, rfl, by omega, fun i hi => ?_⟩
    have hsp : a.spot = none := by
      obtain ⟨cs, hc, _⟩ := hel 0 (by omega)
      obtain ⟨_, hlen, hat⟩ := World.cells?_some hc
      have h0 := hat 0 hK
      rw [Go.Deep.add_add] at h0
      have e : cs[0]? = some (cs[0]'(by omega)) := List.getElem?_eq_getElem (by omega)
      rw [e] at h0
      simpa [Addr.add] using World.cell?_spot h0
    obtain ⟨b, off, sp⟩ := a
    simp only at hsp
    subst hsp
    obtain ⟨cs, hc, ht⟩ := hel i (by omega)
    obtain ⟨_, hlen, hat⟩ := World.cells?_some hc
    have hcell : ∀ j, j < K → W.cell? ⟨b, off + i * K + j, none⟩ = cs[j]? := fun j hj => by
      rw [← hat j hj, Go.Deep.add_add]
      congr 1
      unfold Addr.add
      split
      · rename_i h0
        have h1 : i * K = 0 := by omega
        have h2 : j = 0 := by omega
        rw [h1, h2]; rfl
      · simp [Nat.add_assoc]
    have hb : b < W.heap.size := by
      have h0 := hcell 0 hK
      rw [List.getElem?_eq_getElem (by omega)] at h0
      exact World.block_lt_of_cell? W _ h0
    exact ⟨b, off, cs, n, _, rfl, hb, hlen, hcell, ht⟩
end Go.Proofs.Ytcdedaihkfpafaa

namespace Go.Proofs.Ytcdedaihkfpafaa
open Go.ChangeShapes Go.WideShapes Go.ChangeAt Go.RowKit

theorem open_nat {H : Type} {enc : TypeId × Value → H} {W : World} {b0 : Nat} {v : Value} {d : DataW H} {p : List MemPlace}
    (hv : Value.okWide Try.prog W .any b0 23 v) (h : DataW.Trod enc Try.prog W 0 (fun _ => true) true 23 v d p) :
    ∃ (A : Option Addr) (cap : Nat) (L : List Nat), v = .slice A L.length cap ∧ L.length ≤ cap ∧ L.length ≤ 9223372036854775807 ∧ (A = none → cap = 0) ∧ Fits L ∧ NatAt W A L := by
  obtain ⟨A, len, cap, rfl⟩ := okWide_slice Try.underlying23 hv
  obtain ⟨fuel, hf⟩ := h
  rcases open_ints (k := .u64) Try.underlying23 Try.underlying42 (by kernel_rfl) hf with ⟨hcs, _⟩ | ⟨a, l, c, zs, hcs, _, hl, hm, hz, _, hcell, hwz⟩
  · simp [Value.cells] at hcs
    obtain ⟨rfl, rfl, rfl⟩ := hcs
    exact ⟨none, 0, [], rfl, Nat.le_refl _, by simp, fun _ => rfl, fun x hx => by simp at hx, fun i hi => by simp at hi⟩
  · simp [Value.cells] at hcs
    obtain ⟨rfl, rfl, rfl⟩ := hcs
    unfold maxLen at hm
    have hzl : len ≤ zs.length := by simp at hz; omega
    have hwf : ∀ i, 0 ≤ zs.getD i 0 ∧ zs.getD i 0 < 18446744073709551616 := fun i => by
      rcases Nat.lt_or_ge i zs.length with h | h
      · rw [List.getD_eq_getElem?_getD, List.getElem?_eq_getElem h]
        obtain ⟨n, e, hn⟩ := nat_of_u64 (hwz _ (List.getElem_mem h))
        show 0 ≤ zs[i] ∧ zs[i] < 18446744073709551616
        omega
      · rw [List.getD_eq_getElem?_getD, List.getElem?_eq_none h]
        show (0 : Int) ≤ 0 ∧ (0 : Int) < 18446744073709551616
        omega
    have hLl : ((zs.take len).map Int.toNat).length = len := by rw [List.length_map, List.length_take]; omega
    have hget : ∀ i, i < len → ((((zs.take len).map Int.toNat).getD i 0 : Nat) : Int) = zs.getD i 0 := fun i hi => by
      have h1 := (hwf i).1
      rw [List.getD_eq_getElem?_getD, List.getElem?_map, List.getElem?_take, if_pos hi, List.getElem?_eq_getElem (show i < zs.length by omega)]
      rw [List.getD_eq_getElem?_getD, List.getElem?_eq_getElem (show i < zs.length by omega)] at h1 ⊢
      show ((zs[i].toNat : Nat) : Int) = zs[i]
      have h2 : 0 ≤ zs[i] := h1
      omega
    refine ⟨some a, cap, (zs.take len).map Int.toNat, by rw [hLl], by omega, by omega, fun e => (by cases e), fun x hx => ?_, fun i hi => ?_⟩
    · obtain ⟨i, hi, rfl⟩ := List.getElem_of_mem hx
      have h2 := hget i (by omega)
      rw [List.getD_eq_getElem?_getD, List.getElem?_eq_getElem hi] at h2
      have h3 : ((((zs.take len).map Int.toNat)[i] : Nat) : Int) = zs.getD i 0 := h2
      have h4 := (hwf i).2
      omega
    · obtain ⟨b, off, rfl, hc⟩ := ints_at hcell (by omega)
      refine ⟨b, off, rfl, ?_⟩
      rw [hget i (by omega)]
      exact hc i (by omega)
end Go.Proofs.Ytcdedaihkfpafaa
