/-
  LAYER 3: the texts NatDivide1, NatQDiv, NatLimbGcd, one behind the other.
-/
import Derived.Test.YtcdedaihkfpafaaNatB6
import Derived.Test.YtcdedaihkfpafaaNatB5
import Derived.Test.YtcdedaihkfpafaaNatB3
import Derived.Deep.QuietTactic
import Derived.BigQuiet

namespace Go.Proofs.Ytcdedaihkfpafaa
open Go.RowKit

def DivideRes (na nb : Nat) (w : World) (e : Ending) (w' : World) : Prop :=
  ∃ q r, e = .returned (.tuple #[q, r]) ∧ NRow w.heap.size w' q (nrow (na / nb)) ∧ NRow w.heap.size w' r (nrow (na % nb)) ∧ Below w.heap.size w w'

set_option maxHeartbeats 1000000 in
theorem divide_less (a b : Option Addr) (ca cb na nb : Nat) (w : World) (hl : (nrow na).length < (nrow nb).length) (hs : (nrow na).length ≤ 1099511627776) (h2 : (nrow na).length ≤ ca) (h3 : a = none → ca = 0) (ma : NatAt w a (nrow na)) :
    Calls Try.prog 31 #[.slice a (nrow na).length ca, .slice b (nrow nb).length cb] w (DivideRes na nb w) := by
  have hlt := nrow_lt hl
  have HQ : Hid (na / nb = 0 ∧ na % nb = na) := Lib.hid ⟨Nat.div_eq_of_lt hlt, Nat.mod_eq_of_lt hlt⟩
  have HC := Lib.hid (clone_any a ca (nrow na) w hs h2 h3 ma)
  clear hlt hs h2 h3 ma
  go_enter Try.func31, Try.ntmps31
  go_wp2_with fail
  refine HC.out.mono ?_
  rintro e w2 ⟨v, rfl, hr, hb⟩
  have HR := Lib.hid hr
  have HB := Lib.hid hb
  clear hr hb
  go_wp2_with fail
  go_ret2
  exact ⟨_, v, rfl, by rw [HQ.out.1]; exact NRow.nil _ _, by rw [HQ.out.2]; exact HR.out, HB.out⟩

set_option maxHeartbeats 2000000 in
theorem divide_one (a b : Option Addr) (ca cb na nb : Nat) (w : World) (hl : (nrow nb).length = 1) (hp : 0 < (nrow na).length) (hs : (nrow na).length ≤ 1099511627776) (h2 : (nrow na).length ≤ ca) (h3 : a = none → ca = 0) (ma : NatAt w a (nrow na)) (mb : NatAt w b (nrow nb)) :
    Calls Try.prog 31 #[.slice a (nrow na).length ca, .slice b (nrow nb).length cb] w (DivideRes na nb w) := by
  have HC := Lib.hid (clone_any a ca (nrow na) w hs h2 h3 ma)
  obtain ⟨x, hx⟩ : ∃ x, nrow nb = [x] := by
    rcases hr : nrow nb with _ | ⟨x, _ | ⟨y, l⟩⟩
    · rw [hr] at hl; simp at hl
    · exact ⟨x, rfl⟩
    · rw [hr] at hl; simp at hl
  have hxn : x = nb := by have := lv_nrow nb; rw [hx, lv_one] at this; exact this
  subst hxn
  have hx0 : 0 < x := by
    rcases Nat.eq_zero_or_pos x with h | h
    · rw [h, nrow_zero] at hx; simp at hx
    · exact h
  have hxb : x < 18446744073709551616 := by have := nrow_fits x; rw [hx] at this; exact this x (by simp)
  obtain ⟨bb, ob, rfl, _⟩ := mb 0 (by omega)
  have MB := Lib.hid mb
  obtain ⟨N, hN⟩ : ∃ N, N = (nrow na).length := ⟨_, rfl⟩
  have HN := Lib.hid hN
  have HX := Lib.hid hx
  have nI : ¬ (N : Int) < 1 := by omega
  have HP := Lib.hid hp
  have HS := Lib.hid hs
  rw [hl, ← hN]
  rw [← hN] at HC
  clear hx hN mb hp hs h2 h3 ma hl
  have HC := Lib.hid HC
  go_enter Try.func31, Try.ntmps31
  go_wp2_with fail
  refine HC.out.mono ?_
  rintro e w2 ⟨v, rfl, hr, hb⟩
  have HR := Lib.hid hr
  have HB := Lib.hid hb
  obtain ⟨v1, v2, rfl, _, _, hat⟩ := hr.at_
  obtain ⟨g, off, rfl, _⟩ := hat 0 HP.out
  obtain ⟨rfl, _, hgB, _, _, hsg⟩ := hr.seg
  have hcell : w2.cell? ⟨bb, ob, none⟩ = some (.int .u64 (x : Int)) := by
    obtain ⟨b', o', e', hlt', hc'⟩ := MB.out.lt (i := 0) (by rw [HX.out]; simp)
    cases e'
    rw [HX.out, Nat.add_zero] at hc'
    exact (hb.cell (p := ⟨bb, ob, none⟩) hlt').trans hc'
  have hby := divideByLimb_any g 0 v2 x (nrow na) w2 HS.out (nrow_fits _) hx0 hxb hsg
  rw [← HN.out] at hby ⊢
  have HBY := Lib.hid hby
  have HGB := Lib.hid hgB
  clear hr hb hat hsg hby hgB
  go_wp2_with fail
  refine HBY.out.mono ?_
  rintro e w3 ⟨O, r, rfl, hO, fO, hq, hrm, hs3, hw3⟩
  rw [lv_nrow] at hq hrm
  have hrow3 := HR.out.wrote (by simpa using hw3) hs3 hO
  rw [← HN.out] at hrow3
  have ht := trim_own hrow3 fO (by have := HS.out; omega)
  rw [hq] at ht
  have HT := Lib.hid ht
  have HB3 : Hid (Below w.heap.size w w3) := Lib.hid (HB.out.trans (hw3.below HB.out.size HGB.out))
  have hr64 : r < 18446744073709551616 := by rw [hrm]; exact Nat.lt_trans (Nat.mod_lt _ hx0) hxb
  have HRM := Lib.hid hrm
  clear hO fO hq hrm hs3 hw3 hrow3 ht hcell
  go_wp2_with fail
  refine HT.out.mono ?_
  rintro e w4 ⟨v, rfl, hv, rfl⟩
  have HV := Lib.hid hv
  have HOF := Lib.hid (of_any r w3 hr64)
  clear hv
  go_wp2_with fail
  refine HOF.out.mono ?_
  rintro e w5 ⟨v5, rfl, hv5, hb5⟩
  have HV5 := Lib.hid (hv5.more (B' := w.heap.size) HB3.out.size)
  have HVq := Lib.hid (HV.out.below hb5 (Nat.le_refl _))
  have HB5 := Lib.hid (HB3.out.trans (hb5.mono HB3.out.size))
  clear hv5 hb5
  go_wp2_with fail
  go_ret2
  exact ⟨v, v5, rfl, HVq.out, by rw [← HRM.out]; exact HV5.out, HB5.out⟩
end Go.Proofs.Ytcdedaihkfpafaa

namespace Go.Proofs.Ytcdedaihkfpafaa
open Go.RowKit

/-- divide answers as it should, of these two numbers, wherever they lie. -/
def Divides (na nb : Nat) : Prop := ∀ (a b : Option Addr) (ca cb : Nat) (w : World), (nrow na).length ≤ ca → (a = none → ca = 0) → (nrow nb).length ≤ cb → (b = none → cb = 0) → NatAt w a (nrow na) → NatAt w b (nrow nb) →
  Calls Try.prog 31 #[.slice a (nrow na).length ca, .slice b (nrow nb).length cb] w (DivideRes na nb w)
theorem divides_small {na nb : Nat} (hl : (nrow nb).length = 1) (hs : (nrow na).length ≤ 1099511627776) : Divides na nb := by
  intro a b ca cb w h1 h2 h3 h4 ma mb
  rcases Nat.eq_zero_or_pos (nrow na).length with h | h
  · exact divide_less a b ca cb na nb w (by omega) hs h1 h2 ma
  · exact divide_one a b ca cb na nb w hl h hs h1 h2 ma mb

def DivRes (na nb : Nat) (w : World) (e : Ending) (w' : World) : Prop :=
  ∃ q r, e = .returned (.tuple #[q, r, .int .i64 0]) ∧ NRow w.heap.size w' q (nrow (na / nb)) ∧ NRow w.heap.size w' r (nrow (na % nb)) ∧ Below w.heap.size w w'
def DivErr (c : Int) (w : World) (e : Ending) (w' : World) : Prop := e = .returned (.tuple #[.slice none 0 0, .slice none 0 0, .int .i64 c]) ∧ Below w.heap.size w w'

section
variable {K K' : Nat} {w : World} {va vb : Value} {na nb : Nat}
set_option maxHeartbeats 1000000 in
theorem div_p (ha : NNum K w va na) (hb : NNum K' w vb nb) (hK : K ≤ 1099511627776) (hK' : K' ≤ 1099511627776) (hs : Short na) (hs' : Short nb) (h0 : nb ≠ 0) (hd0 : Divides na nb) : Calls Try.prog 8 #[va, vb] w (DivRes na nb w) := by
  have HT := Lib.hid (trim_v ha hK)
  have HT' := Lib.hid (trim_v hb hK')
  obtain ⟨a, ca, A, rfl, _, _, _, _, _, _⟩ := ha
  obtain ⟨b, cb, B, rfl, _, _, _, _, _, _⟩ := hb
  have hd : decide (2048 < (nrow na).length) = false := by simpa using hs
  have hd' : decide (2048 < (nrow nb).length) = false := by simpa using hs'
  obtain ⟨N, hN⟩ : ∃ N, N = (nrow nb).length := ⟨_, rfl⟩
  have hN0 : ((N : Int) == 0) = false := by
    have : N ≠ 0 := fun h => h0 (nrow_nil.1 (List.eq_nil_of_length_eq_zero (by rw [← hN]; exact h)))
    simp; exact this
  have HN := Lib.hid hN
  have HD := Lib.hid hd0
  clear hs hs' hN h0 hd0
  go_enter Try.func8, Try.ntmps8
  go_wp2_with fail
  refine HT.out.mono ?_
  rintro e w' ⟨v, rfl, hv, rfl⟩
  have HV := Lib.hid hv
  obtain ⟨a', ca', rfl, p1, p2, _⟩ := hv
  have P := Lib.hid (And.intro p1 p2)
  clear p1 p2
  go_wp2_with fail
  refine HT'.out.mono ?_
  rintro e w' ⟨v, rfl, hv, rfl⟩
  have HV' := Lib.hid hv
  obtain ⟨b', cb', rfl, p1, p2, _⟩ := hv
  have P' := Lib.hid (And.intro p1 p2)
  clear p1 p2
  go_wp2_with (first
    | (go_at_call 30; refine (long_two _ _ _ _ _ _ _ _).mono ?_; rw [hd, hd', ← HN.out]; rintro e w2 ⟨rfl, rfl⟩)
    | fail)
  have HB : Hid (Below w.heap.size w (w.alloc (.cells #[.slice a' (nrow na).length ca', .slice b' N cb'] 23))) := Lib.hid ((Below.refl _ _).alloc (Nat.le_refl _) _)
  obtain ⟨a2, ca2, e2, _, _, m2⟩ := HV.out.below HB.out
  obtain ⟨b2, cb2, e3, _, _, m3⟩ := HV'.out.below HB.out
  cases e2
  rw [← HN.out] at e3
  cases e3
  have c3 := HD.out a' b' ca' cb' _ P.out.1 P.out.2 P'.out.1 P'.out.2 m2 m3
  rw [← HN.out] at c3
  refine c3.mono ?_
  clear c3 m2 m3
  rintro e w2 ⟨q, r, rfl, hq, hr, hb2⟩
  have HQ := Lib.hid (hq.more (B' := w.heap.size) HB.out.size)
  have HR := Lib.hid (hr.more (B' := w.heap.size) HB.out.size)
  have HB2 := Lib.hid (HB.out.trans (hb2.mono HB.out.size))
  clear hq hr hb2
  go_wp2_with fail
  go_ret3
  exact ⟨q, r, rfl, HQ.out, HR.out, HB2.out⟩

set_option maxHeartbeats 1000000 in
theorem div_zero (ha : NNum K w va na) (hb : NNum K' w vb 0) (hK : K ≤ 1099511627776) (hK' : K' ≤ 1099511627776) (hs : Short na) : Calls Try.prog 8 #[va, vb] w (DivErr 2 w) := by
  have HT := Lib.hid (trim_v ha hK)
  have HT' := Lib.hid (trim_v hb hK')
  obtain ⟨a, ca, A, rfl, _, _, _, _, _, _⟩ := ha
  obtain ⟨b, cb, B, rfl, _, _, _, _, _, _⟩ := hb
  have hd : decide (2048 < (nrow na).length) = false := by simpa using hs
  clear hs
  go_enter Try.func8, Try.ntmps8
  go_wp2_with fail
  refine HT.out.mono ?_
  rintro e w' ⟨v, rfl, hv, rfl⟩
  obtain ⟨a', ca', rfl, p1, p2, _⟩ := hv
  clear p1 p2
  go_wp2_with fail
  refine HT'.out.mono ?_
  rintro e w' ⟨v, rfl, hv, rfl⟩
  obtain ⟨b', cb', rfl, p1, p2, _⟩ := hv
  rw [nrow_zero, List.length_nil]
  clear p1 p2
  go_wp2_with (first
    | (go_at_call 30; refine (long_two _ _ _ _ _ _ _ _).mono ?_; rw [hd]; rintro e w2 ⟨rfl, rfl⟩)
    | fail)
  go_ret3
  exact ⟨rfl, (Below.refl _ _).alloc (Nat.le_refl _) _⟩

set_option maxHeartbeats 1000000 in
theorem div_long (ha : NNum K w va na) (hb : NNum K' w vb nb) (hK : K ≤ 1099511627776) (hK' : K' ≤ 1099511627776) (hs : ¬ Short na) : Calls Try.prog 8 #[va, vb] w (DivErr 3 w) := by
  have HT := Lib.hid (trim_v ha hK)
  have HT' := Lib.hid (trim_v hb hK')
  obtain ⟨a, ca, A, rfl, _, _, _, _, _, _⟩ := ha
  obtain ⟨b, cb, B, rfl, _, _, _, _, _, _⟩ := hb
  have hd : decide (2048 < (nrow na).length) = true := by simpa using hs
  clear hs
  go_enter Try.func8, Try.ntmps8
  go_wp2_with fail
  refine HT.out.mono ?_
  rintro e w' ⟨v, rfl, hv, rfl⟩
  obtain ⟨a', ca', rfl, p1, p2, _⟩ := hv
  clear p1 p2
  go_wp2_with fail
  refine HT'.out.mono ?_
  rintro e w' ⟨v, rfl, hv, rfl⟩
  obtain ⟨b', cb', rfl, p1, p2, _⟩ := hv
  clear p1 p2
  go_wp2_with (first
    | (go_at_call 30; refine (long_two _ _ _ _ _ _ _ _).mono ?_; rw [hd, Bool.true_or]; rintro e w2 ⟨rfl, rfl⟩)
    | fail)
  go_ret3
  exact ⟨rfl, (Below.refl _ _).alloc (Nat.le_refl _) _⟩
end
end Go.Proofs.Ytcdedaihkfpafaa

namespace Go.Proofs.Ytcdedaihkfpafaa
open Go.RowKit

/-- What a call answers that changes nothing, but for draws. -/
def SameD (v : Value) (w : World) (e : Ending) (w' : World) : Prop := e = .returned v ∧ ∃ k, w' = w.drewN k
def LgAt (G : Nat) (x y : Value) : Prop := ∃ a b : Nat, x = .int .u64 (a : Int) ∧ y = .int .u64 (b : Int) ∧ a < 18446744073709551616 ∧ b < 18446744073709551616 ∧ Nat.gcd a b = G

set_option maxHeartbeats 1000000 in
theorem limbDivisor_any (a b : Nat) (ha : a < 18446744073709551616) (hb : b < 18446744073709551616) (w : World) :
    Calls Try.prog 60 #[.int .u64 (a : Int), .int .u64 (b : Int)] w (SameD (.int .u64 ((Nat.gcd a b : Nat) : Int)) w) := by
  obtain ⟨G, hG⟩ : ∃ G, G = Nat.gcd a b := ⟨_, rfl⟩
  rw [← hG]
  have H0 : Hid (LgAt G (.int .u64 (a : Int)) (.int .u64 (b : Int))) := Lib.hid ⟨a, b, rfl, rfl, ha, hb, hG.symm⟩
  clear hG ha hb
  go_enter Try.func60, Try.ntmps60
  go_wp2_with fail
  go_loopw [0, 1] (fun x y wr => LgAt G x y ∧ ∃ k, wr = w.drewN k) (fun _ y _ => (intOf y).toNat)
  case atStart => exact ⟨H0.out, 0, rfl⟩
  case round =>
    obtain ⟨⟨x, y, rfl, rfl, hx, hy, hg⟩, k, rfl⟩ := hrel
    by_cases h0 : y = 0
    · subst h0
      rw [Nat.gcd_zero_right] at hg
      have HG := Lib.hid hg
      clear hg
      go_wp2_with fail
      go_ret
      exact ⟨by rw [← HG.out]; rfl, k, rfl⟩
    · have y1 : (0 : Int) < (y : Int) := by omega
      have y2 : (y : Int) ≤ 18446744073709551615 := by omega
      have x0 : (0 : Int) ≤ (x : Int) := by omega
      have x2 : (x : Int) ≤ 18446744073709551615 := by omega
      have yb : ((y : Int) == 0) = false := by simp; exact h0
      obtain ⟨r, hr⟩ : ∃ r, r = x % y := ⟨_, rfl⟩
      have hrI : (x : Int) % (y : Int) = (r : Int) := by rw [hr]; simp
      have HN : Hid (Nat.gcd y r = G) := Lib.hid (by rw [hr, ← hg, Nat.gcd_comm y, ← Nat.gcd_rec, Nat.gcd_comm])
      have HL : Hid (r < y) := Lib.hid (by rw [hr]; exact Nat.mod_lt _ (by omega))
      have HRI := Lib.hid hrI
      clear hg hr hrI
      go_wp2_with fail
      go_quiet (fail)
      go_wp2_with fail
      go_roundw
      case rel => exact ⟨⟨y, r, rfl, by rw [HRI.out], hy, by have := HL.out; omega, HN.out⟩, _, by rw [World.drewN_drewN]⟩
      case measure => have := HL.out; have := HRI.out; simp [intOf]; omega

/-- A root, bit by bit: the bits from t on are done. -/
def LrAt (n : Nat) (x y : Value) : Prop := ∃ r t : Nat, x = .int .u64 (r : Int) ∧ t ≤ 32 ∧ y = .int .u64 ((2 ^ t / 2 : Nat) : Int) ∧ r % 2 ^ t = 0 ∧ r < 4294967296 ∧ r * r ≤ n ∧ n < (r + 2 ^ t) * (r + 2 ^ t)

theorem nat_or_bit {r p t : Nat} (hr : r % 2 ^ (t + 1) = 0) (hp : p = 2 ^ t) (h1 : r < 18446744073709551616) (h2 : p < 18446744073709551616) : bits .or .u64 (r : Int) (p : Int) = ((r + p : Nat) : Int) := by
  rw [u64_or_nat _ _ h1 h2]
  congr 1
  have e : r = 2 ^ (t + 1) * (r / 2 ^ (t + 1)) := by have := Nat.div_add_mod r (2 ^ (t + 1)); omega
  have hlt : p < 2 ^ (t + 1) := by rw [hp, Nat.pow_succ]; have := Nat.two_pow_pos t; omega
  rw [e, ← Nat.two_pow_add_eq_or_of_lt hlt]

set_option maxHeartbeats 1000000 in
theorem limbRoot_any (n : Nat) (hn : n < 18446744073709551616) (w : World) :
    Calls Try.prog 61 #[.int .u64 (n : Int)] w fun e w' => ∃ r : Nat, e = .returned (.int .u64 (r : Int)) ∧ r < 18446744073709551616 ∧ r * r ≤ n ∧ n < (r + 1) * (r + 1) ∧ w = w' := by
  have hnI : (n : Int) ≤ 18446744073709551615 := by omega
  go_enter Try.func61, Try.ntmps61
  go_wp2_with fail
  go_loop [3, 4] (fun x y => LrAt n x y) (fun _ y => (intOf y).toNat)
  case atStart => exact ⟨0, 32, rfl, by omega, rfl, by simp, by omega, by omega, by simp; omega⟩
  case round =>
    obtain ⟨r, t, rfl, ht, rfl, hrm, hr, h1, h2⟩ := hrel
    rcases t with _ | t
    · have H : Hid (n < (r + 1) * (r + 1)) := Lib.hid (by simpa using h2)
      have H1 := Lib.hid h1
      clear h1 h2
      rw [show ((2 ^ 0 / 2 : Nat) : Int) = 0 from rfl]
      go_wp2_with fail
      go_ret
      exact ⟨r, rfl, by omega, H1.out, H.out, rfl⟩
    · obtain ⟨p, hp⟩ : ∃ p, p = 2 ^ t := ⟨_, rfl⟩
      have hp2 : 2 ^ (t + 1) / 2 = p := by rw [Nat.pow_succ, hp]; omega
      have hp0 : 0 < p := by rw [hp]; exact Nat.two_pow_pos t
      have hp1 : p ≤ 2147483648 := by rw [hp]; exact Nat.pow_le_pow_right (j := 31) (by omega) (by omega)
      have hph : p / 2 = 2 ^ t / 2 := by rw [hp]
      rw [hp2]
      have horr := nat_or_bit (r := r) (p := p) (t := t) hrm hp (by omega) (by omega)
      have hrp : r + p < 4294967296 := by
        have e1 : r % 4294967296 = r := Nat.mod_eq_of_lt hr
        have e2 : (4294967296 : Nat) = 2 ^ (t + 1) * 2 ^ (31 - t) := by rw [← Nat.pow_add, show t + 1 + (31 - t) = 32 by omega]
        have e3 : r / 2 ^ (t + 1) < 2 ^ (31 - t) := by rw [Nat.div_lt_iff_lt_mul (Nat.two_pow_pos _), Nat.mul_comm, ← e2]; exact hr
        have e4 := Nat.div_add_mod r (2 ^ (t + 1))
        have e5 : 2 ^ (t + 1) * (r / 2 ^ (t + 1) + 1) ≤ 2 ^ (t + 1) * 2 ^ (31 - t) := Nat.mul_le_mul_left _ e3
        rw [Nat.mul_add, ← e2] at e5
        have e6 : 2 ^ (t + 1) = 2 * p := by rw [hp, Nat.pow_succ]; omega
        omega
      obtain ⟨s, hs⟩ : ∃ s, s = r + p := ⟨_, rfl⟩
      rw [← hs] at horr hrp
      have hss : s * s ≤ 4294967295 * 4294967295 := Nat.mul_le_mul (by omega) (by omega)
      obtain ⟨m, hm⟩ : ∃ m, m = s * s := ⟨_, rfl⟩
      have hmI : (s : Int) * (s : Int) = (m : Int) := by rw [hm]; simp
      have hmb : (m : Int) ≤ 18446744073709551615 := by omega
      have hpI : (0 : Int) < (p : Int) := by omega
      have hpd : (p : Int) / 2 = ((p / 2 : Nat) : Int) := by omega
      have HS := Lib.hid hs
      have HM := Lib.hid hm
      have HPH := Lib.hid hph
      have HP := Lib.hid hp
      have H1 := Lib.hid h1
      have H2 := Lib.hid h2
      have HRM := Lib.hid hrm
      have HPD := Lib.hid hpd
      have HLT : Hid (p / 2 < p) := Lib.hid (by omega)
      have e6 : Hid (2 ^ (t + 1) = 2 * p) := Lib.hid (by rw [hp, Nat.pow_succ]; omega)
      clear hs hm hph hp h1 h2 hrm hpd hp2 hss
      by_cases hle : m ≤ n
      · have hleI : (m : Int) ≤ (n : Int) := by omega
        go_wp2_with fail
        go_round
        case rel =>
          refine ⟨s, t, rfl, by omega, by rw [← HPH.out, ← HPD.out], ?_, hrp, by rw [← HM.out]; exact hle, ?_⟩
          · rw [HS.out, HP.out, Nat.add_mod_right]
            have h := HRM.out
            rw [Nat.pow_succ] at h
            exact Nat.mod_eq_zero_of_dvd (Nat.dvd_trans (Nat.dvd_mul_right _ 2) (Nat.dvd_of_mod_eq_zero h))
          · have h := H2.out
            rw [e6.out] at h
            rw [← HP.out, HS.out, show r + p + p = r + 2 * p by omega]; exact h
        case measure => have := HLT.out; have := HPD.out; simp [intOf]; omega
      · have hleI : ¬ (m : Int) ≤ (n : Int) := by omega
        go_wp2_with fail
        go_round
        case rel =>
          refine ⟨r, t, rfl, by omega, by rw [← HPH.out, ← HPD.out], ?_, hr, H1.out, ?_⟩
          · have h := HRM.out
            rw [Nat.pow_succ] at h
            exact Nat.mod_eq_zero_of_dvd (Nat.dvd_trans (Nat.dvd_mul_right _ 2) (Nat.dvd_of_mod_eq_zero h))
          · rw [← HP.out, ← HS.out, ← HM.out]; omega
        case measure => have := HLT.out; have := HPD.out; simp [intOf]; omega
end Go.Proofs.Ytcdedaihkfpafaa
