/-
  The texts NatMul, NatBits, NatBits2, NatNum, NatSmall, NatQSum, NatQMul, NatCompare, one behind the other.
-/
import Derived.Test.YtofpcdjoljjnoaaDoorTapZ03
import Derived.Deep.QuietTactic
import Derived.BigQuiet
import Derived.Laws.BitsAllLaws
import Derived.Laws.CopyOwn

namespace Go.Proofs.YtofpcdjoljjnoaaDoor
open Go.RowKit

/-- One digit more of a row of a product. -/
theorem mul_step {l : List Nat} {a d B i k c : Nat} (hj : i + k < l.length) (h : dv l + 2 ^ (32 * (i + k)) * c = a + 2 ^ (32 * i) * (d * (B % 2 ^ (32 * k)))) :
    dv (l.set (i + k) ((l.getD (i + k) 0 + d * (B / 2 ^ (32 * k) % 2 ^ 32) + c) % 2 ^ 32)) + 2 ^ (32 * (i + (k + 1))) * ((l.getD (i + k) 0 + d * (B / 2 ^ (32 * k) % 2 ^ 32) + c) / 2 ^ 32) = a + 2 ^ (32 * i) * (d * (B % 2 ^ (32 * (k + 1)))) := by
  have eb : B % 2 ^ (32 * (k + 1)) = B % 2 ^ (32 * k) + 2 ^ (32 * k) * (B / 2 ^ (32 * k) % 2 ^ 32) := by
    rw [Nat.mul_add, Nat.mul_one, Nat.pow_add, Nat.mod_mul]
  have ep : 2 ^ (32 * (i + (k + 1))) = 2 ^ (32 * (i + k)) * 2 ^ 32 := by rw [← Nat.add_assoc, Nat.mul_add 32 (i + k), Nat.mul_one, Nat.pow_add]
  have ei : 2 ^ (32 * (i + k)) = 2 ^ (32 * i) * 2 ^ (32 * k) := by rw [Nat.mul_add, Nat.pow_add]
  generalize B / 2 ^ (32 * k) % 2 ^ 32 = y at *
  have hs := dv_set hj ((l.getD (i + k) 0 + d * y + c) % 2 ^ 32)
  have hd := Nat.mod_add_div (l.getD (i + k) 0 + d * y + c) (2 ^ 32)
  generalize (l.getD (i + k) 0 + d * y + c) % 2 ^ 32 = r at *
  generalize (l.getD (i + k) 0 + d * y + c) / 2 ^ 32 = t at *
  generalize l.getD (i + k) 0 = o at *
  have e1 : 2 ^ (32 * (i + k)) * (r + 2 ^ 32 * t) = 2 ^ (32 * (i + k)) * (o + d * y + c) := by rw [hd]
  have e2 : 2 ^ (32 * i) * (d * (2 ^ (32 * k) * y)) = 2 ^ (32 * (i + k)) * (d * y) := by
    rw [ei, ← Nat.mul_assoc d, Nat.mul_comm d (2 ^ (32 * k)), Nat.mul_assoc (2 ^ (32 * k)), ← Nat.mul_assoc (2 ^ (32 * i))]
  rw [eb, ep, Nat.mul_add d, Nat.mul_add (2 ^ (32 * i)), e2, Nat.mul_assoc (2 ^ (32 * (i + k)))]
  clear eb ep ei e2 hd
  generalize 2 ^ (32 * (i + k)) = P at *
  rw [Nat.mul_add P, Nat.mul_add P, Nat.mul_add P] at e1
  generalize P * (2 ^ 32 * t) = z1 at *
  generalize P * r = z2 at *
  generalize P * o = z3 at *
  generalize P * (d * y) = z4 at *
  generalize P * c = z5 at *
  generalize 2 ^ (32 * i) * (d * (B % 2 ^ (32 * k))) = z6 at *
  omega

theorem nat_full {o a K c : Nat} (h : o + K * c = a) (ha : a < K) : o = a := by
  rcases c with _ | c
  · simpa using h
  · rw [Nat.mul_succ] at h; omega
theorem mul_end {a b o d k n c : Nat} (hB : b < 2 ^ (64 * n)) (hd : d = a / 2 ^ (32 * k) % 2 ^ 32) (h : o + 2 ^ (32 * (k + (2 * n + 1))) * c = a % 2 ^ (32 * k) * b + 2 ^ (32 * k) * (d * (b % 2 ^ (32 * (2 * n + 1))))) :
    o = a % 2 ^ (32 * (k + 1)) * b := by
  have ea : a % 2 ^ (32 * (k + 1)) = a % 2 ^ (32 * k) + 2 ^ (32 * k) * d := by
    rw [hd, Nat.mul_add 32 k, Nat.mul_one, Nat.pow_add, Nat.mod_mul]
  have hB2 : b < 2 ^ (32 * (2 * n + 1)) := Nat.lt_of_lt_of_le hB (Nat.pow_le_pow_right (by omega) (by omega))
  rw [Nat.mod_eq_of_lt hB2, ← Nat.mul_assoc (2 ^ (32 * k)), ← Nat.add_mul, ← ea] at h
  refine nat_full h ?_
  have h1 : a % 2 ^ (32 * (k + 1)) < 2 ^ (32 * (k + 1)) := Nat.mod_lt _ (Nat.two_pow_pos _)
  have h2 : 2 ^ (32 * (k + (2 * n + 1))) = 2 ^ (32 * (k + 1)) * 2 ^ (64 * n) := by rw [← Nat.pow_add]; congr 1; omega
  rw [h2]
  exact Nat.lt_of_le_of_lt (Nat.mul_le_mul_left _ (Nat.le_of_lt hB)) (Nat.mul_lt_mul_of_pos_right h1 (Nat.two_pow_pos _))

theorem small_set {l : List Nat} {j r : Nat} (h : Small l) (hr : r < 4294967296) : Small (l.set j r) := by
  intro x hx
  rcases List.mem_or_eq_of_mem_set hx with h1 | h1
  · exact h x h1
  · subst h1; exact hr

def MulRel (A B : List Nat) (n g : Nat) (w : World) (i : Value) (wr : World) : Prop :=
  ∃ (k : Nat) (o : List Nat), k ≤ 2 * A.length ∧ i = .int .i64 (k : Int) ∧ o.length = n ∧ Small o ∧ dv o = lv A % 2 ^ (32 * k) * lv B ∧
    wr.ownsRow w.heap.size 64 1 (.slice (some ⟨g, 0, none⟩) n n) n (U o) ∧ Below w.heap.size w wr

def MulIn (A B : List Nat) (n g i : Nat) (w : World) (c kk : Value) (wr : World) : Prop :=
  ∃ (k cr : Nat) (o : List Nat), k ≤ 2 * B.length + 1 ∧ kk = .int .i64 (k : Int) ∧ c = .int .u64 (cr : Int) ∧ cr < 4294967296 ∧ o.length = n ∧ Small o ∧
    dv o + 2 ^ (32 * (i + k)) * cr = lv A % 2 ^ (32 * i) * lv B + 2 ^ (32 * i) * (dg A i * (lv B % 2 ^ (32 * k))) ∧
    wr.ownsRow w.heap.size 64 1 (.slice (some ⟨g, 0, none⟩) n n) n (U o) ∧ Below w.heap.size w wr

end Go.Proofs.YtofpcdjoljjnoaaDoor

namespace Go.Proofs.YtofpcdjoljjnoaaDoor
open Go.RowKit

/-- The bit of a place. -/
def bitV (v : Nat) (i : Int) : Nat := if i < 0 then 0 else v / 2 ^ i.toNat % 2
theorem bitV_lt (v : Nat) (i : Int) : bitV v i < 2 := by unfold bitV; split <;> omega

/-- How many bits. -/
def blen (v : Nat) : Nat := if v = 0 then 0 else v.log2 + 1
theorem lt_blen (v : Nat) : v < 2 ^ blen v := by
  unfold blen
  split
  · rename_i h; subst h; decide
  · exact Nat.lt_log2_self
theorem blen_of {v k : Nat} (h1 : v < 2 ^ (k + 1)) (h2 : v / 2 ^ k % 2 = 1) : blen v = k + 1 := by
  have h3 : 2 ^ k ≤ v := by
    apply Classical.byContradiction
    intro h
    rw [Nat.div_eq_of_lt (by omega)] at h2
    simp at h2
  have h0 : v ≠ 0 := by have := Nat.two_pow_pos k; omega
  unfold blen
  rw [if_neg h0]
  congr 1
  exact (Nat.log2_eq_iff h0).2 ⟨h3, h1⟩
theorem blen_le {v k : Nat} (h : v < 2 ^ k) : blen v ≤ k := by
  unfold blen
  split
  · omega
  · rename_i h0
    have := (Nat.log2_lt h0).2 h
    omega
theorem blen_ge {v : Nat} (h : v ≠ 0) : 2 ^ (blen v - 1) ≤ v := by
  unfold blen
  rw [if_neg h, Nat.add_sub_cancel]
  exact Nat.log2_self_le h

theorem lv_bit {L : List Nat} (h : Fits L) (i : Nat) : lv L / 2 ^ i % 2 = L.getD (i / 64) 0 / 2 ^ (i % 64) % 2 := by
  rw [← lv_limb h (i / 64)]
  have e : lv L / 2 ^ i = lv L / 2 ^ (64 * (i / 64)) / 2 ^ (i % 64) := by
    rw [Nat.div_div_eq_div_mul, ← Nat.pow_add, Nat.div_add_mod]
  rw [e]
  generalize lv L / 2 ^ (64 * (i / 64)) = x
  have hr : i % 64 < 64 := Nat.mod_lt _ (by omega)
  generalize i % 64 = r at *
  have h1 := Nat.mod_mul_right_div_self x (2 ^ r) (2 ^ (64 - r))
  rw [← Nat.pow_add, show r + (64 - r) = 64 by omega] at h1
  rw [h1, Nat.mod_mod_of_dvd _ (show 2 ∣ 2 ^ (64 - r) from Nat.dvd_trans (by decide : 2 ∣ 2 ^ 1) (Nat.pow_dvd_pow 2 (by omega)))]

theorem and_one (n : Nat) (h : n < 18446744073709551616) : bits .and .u64 (n : Int) 1 = ((n % 2 : Nat) : Int) := by
  have e := u64_and_nat n 1 h (by omega)
  rw [show ((1 : Nat) : Int) = 1 from rfl] at e
  rw [e, Nat.and_one_is_mod]

end Go.Proofs.YtofpcdjoljjnoaaDoor

namespace Go.Proofs.YtofpcdjoljjnoaaDoor
open Go.RowKit

def BitsRel (L : List Nat) (n : Value) : Prop := ∃ k : Nat, k ≤ 64 * L.length ∧ n = .int .i64 (k : Int) ∧ lv L < 2 ^ k
def IntPost (w : World) (n : Nat) (e : Ending) (w' : World) : Prop := ∃ y : Int, y = (n : Int) ∧ e = .returned (.int .i64 y) ∧ w = w'

end Go.Proofs.YtofpcdjoljjnoaaDoor

namespace Go.Proofs.YtofpcdjoljjnoaaDoor
open Go.RowKit

/-- A slice that tells a number, in at most K limbs, normal or not. -/
def NNum (K : Nat) (w : World) (v : Value) (n : Nat) : Prop :=
  ∃ a cap L, v = .slice a L.length cap ∧ L.length ≤ cap ∧ (a = none → cap = 0) ∧ Fits L ∧ NatAt w a L ∧ lv L = n ∧ L.length ≤ K

theorem NNum.below {K n : Nat} {w w' : World} {v : Value} (h : NNum K w v n) (hb : Below w.heap.size w w') : NNum K w' v n := by
  obtain ⟨a, cap, L, h1, h2, h3, h4, h5, h6, h7⟩ := h
  exact ⟨a, cap, L, h1, h2, h3, h4, h5.below hb (Nat.le_refl _), h6, h7⟩
theorem NNum.drewN {K n m : Nat} {w : World} {v : Value} (h : NNum K w v n) : NNum K (w.drewN m) v n := h
theorem NNum.mono {K K' n : Nat} {w : World} {v : Value} (h : NNum K w v n) (hK : K ≤ K') : NNum K' w v n := by
  obtain ⟨a, cap, L, h1, h2, h3, h4, h5, h6, h7⟩ := h
  exact ⟨a, cap, L, h1, h2, h3, h4, h5, h6, by omega⟩
theorem NNum.lt {K n : Nat} {w : World} {v : Value} (h : NNum K w v n) : n < 2 ^ (64 * K) := by
  obtain ⟨a, cap, L, _, _, _, h4, _, h6, h7⟩ := h
  rw [← h6]
  exact Nat.lt_of_lt_of_le (lv_lt h4) (Nat.pow_le_pow_right (by omega) (by omega))
theorem NNum.of_arg {K : Nat} {w : World} {a : Option Addr} {cap : Nat} {L : List Nat} (h2 : L.length ≤ cap) (h3 : a = none → cap = 0) (h4 : Fits L) (h5 : NatAt w a L) (h7 : L.length ≤ K) : NNum K w (.slice a L.length cap) (lv L) :=
  ⟨a, cap, L, rfl, h2, h3, h4, h5, rfl, h7⟩
theorem NRow.num {B K : Nat} {w : World} {v : Value} {L : List Nat} (h : NRow B w v L) (hf : Fits L) (hK : L.length ≤ K) : NNum K w v (lv L) := by
  obtain ⟨A, cap, rfl, hc, _, hat⟩ := h.at_
  refine ⟨A, cap, L, rfl, hc, fun hA => ?_, hf, hat, rfl, hK⟩
  subst hA
  rcases h.2 with ⟨he, _⟩ | ⟨g, cap', cur, he, _⟩
  · injection he
  · injection he with h1; cases h1
theorem NRow.numN {B K n : Nat} {w : World} {v : Value} (h : NRow B w v (nrow n)) (hK : n < 2 ^ (64 * K)) : NNum K w v n := by
  have := h.num (nrow_fits n) (nrow_length_le hK)
  rwa [lv_nrow] at this
/-- A list of one limb. -/
theorem num_lit {w : World} {d : Nat} (T : TypeId) (hd : d < 2 ^ 64) : NNum 1 (w.alloc (.cells #[.int .u64 (d : Int)] T)) (.slice (some ⟨w.heap.size, 0, none⟩) 1 1) d := by
  refine ⟨some ⟨w.heap.size, 0, none⟩, 1, [d], rfl, by simp, fun h => (by cases h), fun x hx => ?_, fun i hi => ?_, by simp [lv], by simp⟩
  · simp at hx; subst hx; exact hd
  · have h0 : i = 0 := by simpa using hi
    subst h0
    refine ⟨w.heap.size, 0, rfl, ?_⟩
    rw [Nat.zero_add, World.cell?_alloc_at _ _ _ _ rfl]
    rfl

/-- What is told of a number, by a call that makes memory. -/
def NOut (B K : Nat) (n : Nat) (w : World) (e : Ending) (w' : World) : Prop := ∃ v, e = .returned v ∧ NRow B w' v (nrow n) ∧ NNum K w' v n ∧ Below B w w'
theorem NRes.out {K n : Nat} {w w' : World} {e : Ending} (h : NRes w n e w') (hK : n < 2 ^ (64 * K)) : NOut w.heap.size K n w e w' := by
  obtain ⟨v, he, hr, hb⟩ := h
  exact ⟨v, he, hr, hr.numN hK, hb⟩

section
variable {K : Nat} {w : World} {va vb : Value} {na nb : Nat}
end

/-! ### Plain mathematics of the division -/
theorem blen_pos {n : Nat} (h : n ≠ 0) : 0 < blen n := by unfold blen; rw [if_neg h]; omega
theorem blen_shl {n s : Nat} (h : n ≠ 0) : blen (n * 2 ^ s) = blen n + s := by
  have h0 : n * 2 ^ s ≠ 0 := Nat.mul_ne_zero h (Nat.pos_iff_ne_zero.1 (Nat.two_pow_pos s))
  have hp := blen_pos h
  have h1 := lt_blen n
  have h2 := blen_ge h
  have h3 : n * 2 ^ s < 2 ^ (blen n + s) := by rw [Nat.pow_add]; exact Nat.mul_lt_mul_of_pos_right h1 (Nat.two_pow_pos s)
  have h4 : 2 ^ (blen n + s - 1) ≤ n * 2 ^ s := by
    rw [show blen n + s - 1 = (blen n - 1) + s by omega, Nat.pow_add]; exact Nat.mul_le_mul_right _ h2
  have h5 := blen_le h3
  have h6 := lt_blen (n * 2 ^ s)
  apply Classical.byContradiction
  intro hne
  have h7 : 2 ^ blen (n * 2 ^ s) ≤ 2 ^ (blen n + s - 1) := Nat.pow_le_pow_right (by omega) (by omega)
  omega

/-- One digit of a quotient. -/
theorem div_dig {X Y t r Q : Nat} (hr : r = X / 2 ^ (32 * (t + 1)) % Y) (hQ : Q = X / 2 ^ (32 * (t + 1)) / Y) (hY : 0 < Y) :
    X / 2 ^ (32 * t) % Y = (r * 2 ^ 32 + X / 2 ^ (32 * t) % 2 ^ 32) % Y ∧ X / 2 ^ (32 * t) / Y = Q * 2 ^ 32 + (r * 2 ^ 32 + X / 2 ^ (32 * t) % 2 ^ 32) / Y := by
  have e1 : X / 2 ^ (32 * (t + 1)) = X / 2 ^ (32 * t) / 2 ^ 32 := by rw [Nat.mul_add, Nat.mul_one, Nat.pow_add, Nat.div_div_eq_div_mul]
  rw [e1] at hr hQ
  generalize X / 2 ^ (32 * t) = x at *
  have h1 := Nat.div_add_mod x (2 ^ 32)
  have h2 := Nat.div_add_mod (x / 2 ^ 32) Y
  rw [← hr, ← hQ] at h2
  have e2 : x = (r * 2 ^ 32 + x % 2 ^ 32) + Y * (Q * 2 ^ 32) := by
    have e3 : Y * (Q * 2 ^ 32) = Y * Q * 2 ^ 32 := (Nat.mul_assoc _ _ _).symm
    rw [e3]
    generalize Y * Q = z at *
    omega
  constructor
  · conv => lhs; rw [e2]
    rw [Nat.add_mul_mod_self_left]
  · conv => lhs; rw [e2]
    rw [Nat.add_mul_div_left _ _ hY]
    omega
end Go.Proofs.YtofpcdjoljjnoaaDoor

namespace Go.Proofs.YtofpcdjoljjnoaaDoor
open Go.RowKit

/-- A slice that tells a number, normal. -/
def NTr (w : World) (v : Value) (n : Nat) : Prop :=
  ∃ a cap, v = .slice a (nrow n).length cap ∧ (nrow n).length ≤ cap ∧ (a = none → cap = 0) ∧ NatAt w a (nrow n)
theorem NTr.below {n : Nat} {w w' : World} {v : Value} (h : NTr w v n) (hb : Below w.heap.size w w') : NTr w' v n := by
  obtain ⟨a, cap, h1, h2, h3, h4⟩ := h
  exact ⟨a, cap, h1, h2, h3, h4.below hb (Nat.le_refl _)⟩
theorem NTr.num {n K : Nat} {w : World} {v : Value} (h : NTr w v n) (hK : (nrow n).length ≤ K) : NNum K w v n := by
  obtain ⟨a, cap, rfl, h2, h3, h4⟩ := h
  exact ⟨a, cap, nrow n, rfl, h2, h3, nrow_fits n, h4, lv_nrow n, hK⟩
theorem NNum.rowLen {K n : Nat} {w : World} {v : Value} (h : NNum K w v n) : (nrow n).length ≤ K := by
  obtain ⟨a, cap, L, _, _, _, h4, _, rfl, h7⟩ := h
  exact Nat.le_trans (nrow_le h4) h7
theorem NRow.none_cap {B : Nat} {w : World} {a : Option Addr} {n cap : Nat} {L : List Nat} (h : NRow B w (.slice a n cap) L) : a = none → cap = 0 := by
  rintro rfl
  rcases h.2 with ⟨he, _⟩ | ⟨g, cap', cur, he, _⟩
  · cases he; rfl
  · cases he
theorem NRow.norm {B : Nat} {w : World} {a : Option Addr} {cap : Nat} {L : List Nat} (h : NRow B w (.slice a L.length cap) L) (hf : Fits L) : NRow B w (.slice a (nrow (lv L)).length cap) (nrow (lv L)) := by
  have ht := nrow_take hf
  rcases h.2 with ⟨he, h0⟩ | ⟨g, cap', cur, he, _⟩
  · obtain rfl : L = [] := List.eq_nil_of_length_eq_zero h0
    cases he
    exact NRow.nil _ _
  · injection he with h1
    subst h1
    have e : L = nrow (lv L) ++ L.drop (nrow (lv L)).length := by
      conv => lhs; rw [← List.take_append_drop (nrow (lv L)).length L]
      rw [← ht]
    generalize lv L = n at *
    rw [e] at h
    exact h.take
theorem NRow.tr {B n : Nat} {w : World} {v : Value} (h : NRow B w v (nrow n)) : NTr w v n := by
  obtain ⟨a, cap, rfl, hc, _, hat⟩ := h.at_
  exact ⟨a, cap, rfl, hc, h.none_cap, hat⟩

/-- What trim answers of a number; and of a row of the call's own. -/
def TrimPost (n : Nat) (w : World) (e : Ending) (w' : World) : Prop := ∃ v, e = .returned v ∧ NTr w v n ∧ w = w'
theorem trim_v {K n : Nat} {w : World} {v : Value} (h : NNum K w v n) (hK : K ≤ 1099511627776) : Calls Tryd.prog 51 #[v] w (TrimPost n w) := by
  obtain ⟨a, cap, L, rfl, h2, h3, h4, h5, rfl, h7⟩ := h
  refine (trim_any a cap L w (by omega) h2 h4 h5).mono ?_
  rintro e w' ⟨rfl, rfl⟩
  exact ⟨_, rfl, ⟨a, cap, rfl, by have := nrow_le h4; omega, h3, h5.norm h4⟩, rfl⟩
def TrimOwn (B n : Nat) (w : World) (e : Ending) (w' : World) : Prop := ∃ v, e = .returned v ∧ NRow B w v (nrow n) ∧ w = w'
theorem trim_own {B : Nat} {w : World} {v : Value} {L : List Nat} (h : NRow B w v L) (hf : Fits L) (hl : L.length ≤ 1099511627776) : Calls Tryd.prog 51 #[v] w (TrimOwn B (lv L) w) := by
  obtain ⟨a, cap, rfl, hc, _, hat⟩ := h.at_
  refine (trim_any a cap L w hl hc hf hat).mono ?_
  rintro e w' ⟨rfl, rfl⟩
  exact ⟨_, rfl, h.norm hf, rfl⟩

/-- A row of the call's own, told. -/
def OwnRes (L : List Nat) (w : World) (e : Ending) (w' : World) : Prop := ∃ v, e = .returned v ∧ NRow w.heap.size w' v L ∧ Below w.heap.size w w'

theorem news_all {w : World} {ad : Addr} {L : List Nat} (h : NatAt w (some ad) L) (j : Nat) (u : Value) (hu : (U L)[j]? = some u) : w.cell? (ad.add j) = some u := by
  have := news_of h L.length (Nat.le_refl _) j u
  rw [List.take_length] at this
  exact this hu

set_option maxHeartbeats 1000000 in
theorem clone_any (a : Option Addr) (cap : Nat) (L : List Nat) (w : World) (hl : L.length ≤ 1099511627776) (hcap : L.length ≤ cap) (hcn : a = none → cap = 0) (hc : NatAt w a L) :
    Calls Tryd.prog 47 #[.slice a L.length cap] w (OwnRes L w) := by
  obtain ⟨i0, hi, hz0, hz1, hz2⟩ := info_parts info_u64
  have HC := Lib.hid hc
  have HN := Lib.hid hcn
  clear hc hcn
  have hnil := fun (w : World) (a : Option Addr) (n c : Nat) => Go.Lib.run_eql_slice_nil (P := Tryd.prog) w 29 64 a n c 0 0 Tryd.underlying29
  rcases a with _ | ad
  · obtain rfl := HN.out rfl
    obtain rfl : L = [] := List.eq_nil_of_length_eq_zero (by omega)
    go_enter Tryd.func47, Tryd.ntmps47
    go_wp2
    go_ret
    exact ⟨_, rfl, NRow.nil _ _, Below.refl _ _⟩
  · have HNEW := Lib.hid (news_all HC.out)
    have HLE : Hid ((U L).length = L.length * 1) := Lib.hid (by rw [U_length, Nat.mul_one])
    go_enter Tryd.func47, Tryd.ntmps47
    go_wp2_with (
      (at_builtin
       refine wpList_append_own _ rfl (.tmp 5) (.tmp 6) 29 rfl w.heap.size 64 i0 _ 1 8 Tryd.underlying29 hi hz0 hz1 hz2 rfl (by omega) _ 0 [] rfl ?c0 ad L.length cap (U L) rfl ?c1 ?c2 ?c3 ?c4 ?c5 ?c6 ?_
       case c0 => exact World.ownsRow_made _ _ _ (by simp) (by unfold maxLen; omega) rfl
       case c1 => exact HLE.out
       case c2 => exact news_all (HC.out.alloc _)
       case c3 => exact U_one _
       case c4 => unfold maxLen; omega
       case c5 => omega
       case c6 => simp
       intro v1 w1 hown1 hg1 _
       have HO : Hid (NRow w.heap.size w1 v1 L) := Lib.hid (by unfold NRow; simpa using hown1)
       have HB : Hid (Below w.heap.size w w1) := Lib.hid (((Below.refl _ _).alloc (Nat.le_refl _) _).grown hg1 (by simp) (fun k hk => by cases hk; exact Nat.le_refl _))
       clear hown1 hg1))
    go_ret
    exact ⟨_, rfl, HO.out, HB.out⟩
theorem clone_v {n : Nat} {w : World} {v : Value} (h : NTr w v n) (hl : (nrow n).length ≤ 1099511627776) : Calls Tryd.prog 47 #[v] w (OwnRes (nrow n) w) := by
  obtain ⟨a, cap, rfl, h2, h3, h4⟩ := h
  exact clone_any a cap _ w hl h2 h3 h4

/-- A row of one limb. -/
theorem row_one (w : World) (x : Nat) : NRow w.heap.size (w.alloc (.cells #[.int .u64 (x : Int)] 64)) (.slice (some ⟨w.heap.size, 0, none⟩) 1 1) [x] :=
  ⟨by simp [U], .inr ⟨w.heap.size, 1, #[.int .u64 (x : Int)], rfl, Nat.le_refl _, heap_alloc_new w _, Nat.le_refl _, by unfold maxLen; omega, rfl, by simp [U]⟩⟩
theorem lv_one (x : Nat) : lv [x] = x := by simp [lv]
set_option maxHeartbeats 1000000 in
theorem of_any (x : Nat) (w : World) (hx : x < 18446744073709551616) : Calls Tryd.prog 36 #[.int .u64 (x : Int)] w (OwnRes (nrow x) w) := by
  have HT := Lib.hid (trim_own (row_one w x) (fun y hy => by simp at hy; subst hy; exact hx) (by simp))
  have HB : Hid (Below w.heap.size w (w.alloc (.cells #[.int .u64 (x : Int)] 64))) := Lib.hid ((Below.refl _ _).alloc (Nat.le_refl _) _)
  clear hx
  go_enter Tryd.func36, Tryd.ntmps36
  go_wp2_with (go_at_call 51; refine HT.out.mono ?_; rintro e w' ⟨v, rfl, hv, rfl⟩; have HV := Lib.hid hv; clear hv)
  go_ret
  exact ⟨_, rfl, by have := HV.out; rwa [lv_one] at this, HB.out⟩

/-- What is told beside an error's number. -/
def ERes (B n : Nat) (w : World) (e : Ending) (w' : World) : Prop := ∃ v, e = .returned (.tuple #[v, .int .i64 0]) ∧ NRow B w' v (nrow n) ∧ Below B w w'
def EErr (B : Nat) (c : Int) (w : World) (e : Ending) (w' : World) : Prop := e = .returned (.tuple #[.slice none 0 0, .int .i64 c]) ∧ Below B w w'

theorem long_one (a : Option Addr) (n cap : Nat) (w : World) (T : TypeId) :
    Calls Tryd.prog 59 #[.slice (some ⟨w.heap.size, 0, none⟩) 1 1] (w.alloc (.cells #[.slice a n cap] T)) (Same (.bool (decide (2048 < n))) (w.alloc (.cells #[.slice a n cap] T))) := by
  have := tooLong_any w.heap.size 1 [n] (w.alloc (.cells #[.slice a n cap] T)) (by simp) (fun i hi => ⟨a, cap, by
    have h0 : i = 0 := by simpa using hi
    subst h0
    exact (Box.new w _ T).1⟩)
  simpa [anyLong] using this
theorem long_two (a b : Option Addr) (n m cap cbp : Nat) (w : World) (T : TypeId) :
    Calls Tryd.prog 59 #[.slice (some ⟨w.heap.size, 0, none⟩) 2 2] (w.alloc (.cells #[.slice a n cap, .slice b m cbp] T)) (Same (.bool (decide (2048 < n) || decide (2048 < m))) (w.alloc (.cells #[.slice a n cap, .slice b m cbp] T))) := by
  have e : (w.alloc (.cells #[.slice a n cap, .slice b m cbp] T)).heap[w.heap.size]? = some (.cells #[.slice a n cap, .slice b m cbp] T (0, 0)) := heap_alloc_new w _
  have := tooLong_any w.heap.size 2 [n, m] (w.alloc (.cells #[.slice a n cap, .slice b m cbp] T)) (by simp) (fun i hi => by
    rcases i with _ | _ | i
    · exact ⟨a, cap, by unfold World.cell?; rw [e]; rfl⟩
    · exact ⟨b, cbp, by unfold World.cell?; rw [e]; rfl⟩
    · simp at hi; omega)
  simpa [anyLong] using this
end Go.Proofs.YtofpcdjoljjnoaaDoor

namespace Go.Proofs.YtofpcdjoljjnoaaDoor
open Go.RowKit

def ResOk (B n : Nat) (w : World) (e : Ending) (w' : World) : Prop := ∃ v, e = .returned (.tuple #[v, .int .i64 0]) ∧ NRow B w' v (nrow n) ∧ Below w.heap.size w w'
def ResErr (c : Int) (w : World) (e : Ending) (w' : World) : Prop := e = .returned (.tuple #[.slice none 0 0, .int .i64 c]) ∧ Below w.heap.size w w'

/-- What 'make' lays: limbs of 0. -/
theorem made_zeros {w0 : World} {B n : Nat} {v : Value} (h : w0.ownsRow B 64 1 v n (madeCells (Value.int .u64 0).cells (n * 1)).toList) : NRow B w0 v (List.replicate n 0) := by
  rw [show (Value.int .u64 0).cells = #[.int .u64 0] from rfl, toList_madeCells_one, Nat.mul_one] at h
  unfold NRow
  rw [List.length_replicate, U_zeros]; exact h
theorem fits_zeros (n : Nat) : Fits (List.replicate n 0) := fun x hx => by
  obtain rfl := (List.mem_replicate.1 hx).2
  omega
theorem fits_append {A B : List Nat} (h : Fits A) (k : Fits B) : Fits (A ++ B) := fun x hx => (List.mem_append.1 hx).elim (h x) (k x)

/-- Limbs copied to a row's head. -/
theorem copy_limbs {B g N : Nat} {w : World} {L M : List Nat} {a : Option Addr} {ca : Nat} (ty : TypeId) (h : NRow B w (.slice (some ⟨g, 0, none⟩) N N) L) (hm : NatAt w a M) (hl : M.length ≤ N) :
    ∃ w2, (Builtin.copy_ #[29, 29] ty #[.slice (some ⟨g, 0, none⟩) N N, .slice a M.length ca]).run Tryd.prog w = .ok (goInt M.length) w2 ∧ Wrote g 0 N w w2 ∧ Seg w2 g 0 (M ++ L.drop M.length) := by
  have hsz : (Tryd.prog.info? 64).map (·.size) = some 1 := by kernel_rfl
  have hsg := h.seg
  rcases Nat.eq_zero_or_pos M.length with h0 | hp
  · have hr := run_copy_none (P := Tryd.prog) w 29 29 ty 64 (some ⟨g, 0, none⟩) a N N M.length ca Tryd.underlying29 hsz (by rw [h0]; exact Nat.zero_min _)
    obtain rfl : M = [] := List.eq_nil_of_length_eq_zero h0
    exact ⟨w, hr, Wrote.refl _ _ _ _, hsg.2.2.2.2.2⟩
  · obtain ⟨b, off, rfl, _⟩ := hm 0 hp
    obtain ⟨_, hN, _, _, _, cur, hg, hc⟩ := hsg
    have hcs : N ≤ cur.size := by
      rcases h.2 with ⟨he, _⟩ | ⟨g', cap', cur', he, _, hg', _, _, hs', _⟩
      · cases he
      · cases he
        rw [hg] at hg'
        cases hg'
        omega
    have hr := run_copy_row (P := Tryd.prog) w 29 29 ty 64 g 0 N N ⟨b, off, none⟩ M.length ca cur 64 (U M) Tryd.underlying29 hsz hg (by rw [U_length]; exact (Nat.min_eq_left hl).symm) (news_all hm) (by rw [U_length]; omega) (U_one _)
    rw [U_length] at hr
    refine ⟨_, hr, ⟨⟨rfl, rfl, rfl, by simp [World.setRow], fun k hk hne => setRow_other w g k _ (fun e => hne (by rw [e]))⟩, fun c T fr hcg => ?_⟩, _, setRow_heap w g cur _ _ _ hg, fun i hi => ?_⟩
    · rw [hg] at hcg
      cases hcg
      refine ⟨_, setRow_heap w g _ _ _ _ hg, ?_, fun o ho => ?_⟩
      · simp [U_length]; omega
      · have hgt : M.length ≤ o := by omega
        have e : (0 : Nat) + M.length = M.length := by omega
        rw [e]
        simp only [List.take_zero, List.nil_append, List.getElem?_toArray]
        rw [List.getElem?_append_right (by rw [U_length]; exact hgt), U_length, List.getElem?_drop, show M.length + (o - M.length) = o by omega]
        simp
    · have e : (0 : Nat) + M.length = M.length := by omega
      rw [e, Nat.zero_add]
      simp only [List.take_zero, List.nil_append, List.getElem?_toArray]
      by_cases him : i < M.length
      · rw [List.getElem?_append_left (by rw [U_length]; exact him), U_get him]
        simp [List.getElem?_append_left him]
      · have hil : i < L.length := by rw [List.length_append, List.length_drop] at hi; omega
        rw [List.getElem?_append_right (by rw [U_length]; omega), U_length, List.getElem?_drop, show M.length + (i - M.length) = i by omega]
        have := hc i hil
        rw [Nat.zero_add] at this
        rw [← Array.getElem?_toList] at this
        rw [this, List.getD_eq_getElem?_getD, List.getD_eq_getElem?_getD, List.getElem?_append_right (by omega), List.getElem?_drop, show M.length + (i - M.length) = i by omega]

theorem dv_full' {o p a c : Nat} (h : o + p * c = a) (ha : a < p) : o = a := by
  rcases c with _ | c
  · simpa using h
  · rw [Nat.mul_succ] at h; omega

end Go.Proofs.YtofpcdjoljjnoaaDoor

namespace Go.Proofs.YtofpcdjoljjnoaaDoor
open Go.RowKit

/-- A row that tells a product. -/
def MulPost (N n : Nat) (w : World) (e : Ending) (w' : World) : Prop := ∃ v L, e = .returned v ∧ NRow w.heap.size w' v L ∧ Fits L ∧ lv L = n ∧ L.length = N ∧ Below w.heap.size w w'

/-- A product, the lowest limbs of one number done. -/
def MultAt (g N : Nat) (A B : List Nat) (i : Value) (w wr : World) : Prop :=
  ∃ (k : Nat) (P : List Nat), k ≤ B.length ∧ i = .int .i64 (k : Int) ∧ P.length = A.length + k ∧ Fits P ∧ lv P = lv A * lv (B.take k) ∧
    NRow g wr (.slice (some ⟨g, 0, none⟩) N N) (P ++ List.replicate (N - P.length) 0) ∧ Below g w wr

theorem mult_step {A B P S : List Nat} {k n c : Nat} (hP : P.length = A.length + k) (hv : lv P = lv A * lv (B.take k)) (hS : S.length = A.length) (hn : n = B.getD k 0)
    (h : lv S + 2 ^ (64 * A.length) * c = lv (P.drop k) + n * lv A) : lv (P.take k ++ S ++ [c]) = lv A * lv (B.take (k + 1)) := by
  rw [lv_append, lv_append, List.length_append, List.length_take, hP, hS, Nat.min_eq_left (by omega), lv_one, lv_take_succ', ← hn]
  have e : lv P = lv (P.take k) + 2 ^ (64 * k) * lv (P.drop k) := by
    conv => lhs; rw [← List.take_append_drop k P]
    rw [lv_append, List.length_take, hP, Nat.min_eq_left (by omega)]
  rw [show 64 * (k + A.length) = 64 * k + 64 * A.length by omega, Nat.pow_add, Nat.mul_assoc, Nat.add_assoc, ← Nat.mul_add, h, Nat.mul_add, ← Nat.add_assoc, ← e, hv, Nat.mul_add]
  congr 1
  rw [Nat.mul_left_comm (lv A), Nat.mul_comm (lv A) n]
theorem set_zero (O : List Nat) (m x : Nat) : (O ++ List.replicate (m + 1) 0).set O.length x = (O ++ [x]) ++ List.replicate m 0 := by
  rw [List.set_append_right _ _ (Nat.le_refl _), Nat.sub_self, List.replicate_succ, List.set_cons_zero]
  simp
theorem NRow.set {B g cap n : Nat} {w : World} {L : List Nat} (h : NRow B w (.slice (some ⟨g, 0, none⟩) n cap) L) {i : Nat} (hi : i < L.length) (x : Nat) : NRow B (w.setCell ⟨g, i, none⟩ (.int .u64 (x : Int))) (.slice (some ⟨g, 0, none⟩) n cap) (L.set i x) := by
  have hs := h.seg.2.2.2.2.2.set hi x
  rw [Nat.zero_add] at hs
  exact h.wrote ((Wrote.refl g 0 L.length w).setIn (Nat.zero_le _) hi _) hs (List.length_set ..)
theorem fits_drop {L : List Nat} (h : Fits L) (k : Nat) : Fits (L.drop k) := fun x hx => h x (List.mem_of_mem_drop hx)

end Go.Proofs.YtofpcdjoljjnoaaDoor

namespace Go.Proofs.YtofpcdjoljjnoaaDoor
open Go.RowKit Go.Shelf
attribute [local go_sem] Oper.semAt_some wide_fn

def DownPost (a b : Value) (w : World) (e : Ending) (w' : World) : Prop :=
  e = .returned (.func (.func 79) #[] #[.pointer (some ⟨w.heap.size, 0, none⟩), .pointer (some ⟨w.heap.size + 1, 0, none⟩)]) ∧ w' = (w.alloc (.cells #[a] 29)).alloc (.cells #[b] 29)
theorem pairsDown_any (a b : Option Addr) (la lb ca cb : Nat) (w : World) :
    Calls Tryd.prog 71 #[.slice a la ca, .slice b lb cb] w (DownPost (.slice a la ca) (.slice b lb cb) w) := by
  go_enter Tryd.func71, Tryd.ntmps71
  go_wp2
  go_ret
  exact ⟨rfl, rfl⟩

/-- What the function reads, at any round. -/
def DownRd (p q : Nat) (a b : Option Addr) (ca cb : Nat) (A B : List Nat) (w : World) : Prop :=
  w.cell? ⟨p, 0, none⟩ = some (.slice a A.length ca) ∧ w.cell? ⟨q, 0, none⟩ = some (.slice b B.length cb) ∧ NatAt w a A ∧ NatAt w b B

def EndBool (J Jx : World → Prop) (e : Ending) (w : World) : Prop := ∃ v : Bool, e = .returned (.bool v) ∧ ((v = true ∧ J w) ∨ (v = false ∧ Jx w))
theorem endBool {J Jx : World → Prop} {e : Ending} {w : World} (h : (e = .returned (.bool true) ∧ J w) ∨ (e = .returned (.bool false) ∧ Jx w)) : EndBool J Jx e w := by
  rcases h with ⟨he, h⟩ | ⟨he, h⟩
  · exact ⟨true, he, .inl ⟨rfl, h⟩⟩
  · exact ⟨false, he, .inr ⟨rfl, h⟩⟩

set_option maxRecDepth 100000 in
set_option maxHeartbeats 4000000 in
theorem pairsDown_at (p q : Nat) (a b : Option Addr) (ca cb : Nat) (A B : List Nat) (X Y : Nat → Nat) (hX : ∀ k, X k = A.getD (A.length - 1 - k) 0) (hY0 : ∀ k, Y k = B.getD (A.length - 1 - k) 0) (hA : A.length ≤ 1099511627776) (hAB : A.length = B.length) :
    SeqAt Tryd.prog 79 #[.pointer (some ⟨p, 0, none⟩), .pointer (some ⟨q, 0, none⟩)] A.length
      (fun k => #[.int .u64 ((X k : Nat) : Int), .int .u64 ((Y k : Nat) : Int)]) (fun _ => DownRd p q a b ca cb A B) := by
  intro m l J Jx W hRd hJd hY h0
  refine callsIn_of_wp Tryd.func79 rfl trivial ?_ rfl
  simp only [Tryd.ntmps79, List.size_toArray, List.length_cons, List.length_nil, Nat.reduceAdd, Nat.reduceSub, Array.replicate_succ, Array.replicate_zero, List.push_toArray, List.append_toArray, List.nil_append, List.cons_append]
  obtain ⟨hp0, -, -, -⟩ := hRd 0 W h0
  have HRD := Lib.hid hRd
  have HY := Lib.hid hY
  have H0 := Lib.hid h0
  have HX := Lib.hid hX
  have HY0 := Lib.hid hY0
  have HAB := Lib.hid hAB
  have hmx : Tryd.prog.follows .mixedOrders = true := by kernel_rfl
  clear hRd hY h0 hX hY0 hAB
  gi_wp2
  gi_loopw [4] (fun i wr => ∃ k : Nat, k ≤ A.length ∧ i = .int .i64 ((A.length : Int) - 1 - (k : Int)) ∧ J k wr) (fun i _ => (intOf i + 1).toNat)
  case atStart => exact ⟨0, Nat.zero_le _, by go_num, H0.out⟩
  case round =>
    obtain ⟨k, hk, rfl, hJ⟩ := hrel
    by_cases hlt : k < A.length
    · obtain ⟨j, hj⟩ : ∃ j, j = A.length - 1 - k := ⟨_, rfl⟩
      have hjI : (A.length : Int) - 1 - (k : Int) = (j : Int) := by omega
      have hj0 : (0 : Int) ≤ (j : Int) := by omega
      have hjA : (j : Int) < (A.length : Int) := by omega
      have hjB : (j : Int) < (B.length : Int) := by have := HAB.out; omega
      obtain ⟨hp, hq, hfa, hfb⟩ := HRD.out k wr hJ
      obtain ⟨ba, oa, ea, hca⟩ := hfa j (by omega)
      obtain ⟨bb, ob, eb, hcb⟩ := hfb j (by have := HAB.out; omega)
      obtain ⟨fn, tmps, assign, body, hy, hR⟩ := HY.out k wr.drew hlt (hJd k wr hJ)
      have hR' := hR.mono (fun e w h => endBool h)
      obtain ⟨x, hx⟩ : ∃ x, x = A.getD j 0 := ⟨_, rfl⟩
      obtain ⟨y, hyy⟩ : ∃ y, y = B.getD j 0 := ⟨_, rfl⟩
      rw [← hx] at hca
      rw [← hyy] at hcb
      rw [HX.out k, HY0.out k, ← hj, ← hx, ← hyy] at hy
      have HR := Lib.hid hR'
      have HJ : Hid ((A.length : Int) - 1 - (k : Int) - 1 = (A.length : Int) - 1 - ((k + 1 : Nat) : Int)) := Lib.hid (by omega)
      have HJI := Lib.hid hjI
      rw [hjI]
      clear hfa hfb hp0 hx hyy hR hR' hjI hj
      subst ea
      subst eb
      gi_wp2
      gi_region_with_o (refine HR.out.mono ?_; rintro e W3 ⟨v, rfl, hv⟩)
      all_goals rcases hv with ⟨rfl, hJ3⟩ | ⟨rfl, hJx3⟩
      all_goals gi_wp2
      all_goals first
        | (go_roundw
           case rel => exact ⟨k + 1, by omega, by congr 1; have := HJI.out; omega, hJ3⟩
           case measure => have := HJI.out; simp [intOf])
        | (refine bodyPost_ret (results_none rfl _ _ _) rfl ?_
           exact ⟨⟨_, rfl⟩, .inr ⟨k + 1, by omega, hJx3⟩⟩)
    · have hI : (A.length : Int) - 1 - (k : Int) < 0 := by omega
      obtain rfl : k = A.length := by omega
      gi_wp2
      go_end0
      exact ⟨⟨_, rfl⟩, .inl hJ⟩
end Go.Proofs.YtofpcdjoljjnoaaDoor
