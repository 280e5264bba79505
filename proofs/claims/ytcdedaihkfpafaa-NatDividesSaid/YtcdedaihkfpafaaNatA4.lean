/-
  LAYER 3: the texts NatSet, NatSetW, NatRoot, NatTextM, NatParseM, one behind the other.
-/
import Derived.Test.YtcdedaihkfpafaaNatA3

namespace Go.Proofs.Ytcdedaihkfpafaa
open Go.RowKit

theorem lv_set {l : List Nat} {j : Nat} (h : j < l.length) (v : Nat) : lv (l.set j v) + 2 ^ (64 * j) * l.getD j 0 = lv l + 2 ^ (64 * j) * v := by
  induction l generalizing j with
  | nil => simp at h
  | cons a l ih =>
    rcases j with _ | j
    · simp [lv]; omega
    · have h1 := ih (j := j) (by simpa using h)
      simp only [List.set_cons_succ, lv, List.getD_cons_succ]
      rw [Nat.mul_add 64, Nat.mul_one, Nat.add_comm (64 * j), Nat.pow_add, Nat.mul_assoc, Nat.mul_assoc]
      generalize lv (l.set j v) = p at *
      generalize 2 ^ (64 * j) * l.getD j 0 = q at *
      generalize 2 ^ (64 * j) * v = s at *
      omega
theorem or_bit {x m : Nat} (h : x % 2 ^ (m + 1) = 0) : x ||| 2 ^ m = x + 2 ^ m := by
  have h1 : x = 2 ^ (m + 1) * (x / 2 ^ (m + 1)) := by have := Nat.div_add_mod x (2 ^ (m + 1)); omega
  rw [h1, ← Nat.two_pow_add_eq_or_of_lt (Nat.pow_lt_pow_right (by omega) (by omega))]

/-- The row with zeros on top, as long as the place wants. -/
def padded (L : List Nat) (q : Nat) : List Nat := L ++ List.replicate (q + 1 - L.length) 0
theorem padded_length (L : List Nat) (q : Nat) : (padded L q).length = max L.length (q + 1) := by
  unfold padded; rw [List.length_append, List.length_replicate]; omega
theorem lv_padded (L : List Nat) (q : Nat) : lv (padded L q) = lv L := by
  unfold padded; rw [lv_append, lv_zeros]; simp
theorem padded_fits {L : List Nat} (h : Fits L) (q : Nat) : Fits (padded L q) := by
  intro x hx
  rcases List.mem_append.1 hx with h1 | h1
  · exact h x h1
  · have := List.eq_of_mem_replicate h1; omega

/-- A limb's low bits are the number's. -/
theorem limb_low {L : List Nat} (h : Fits L) (i : Nat) (h0 : lv L % 2 ^ (i + 1) = 0) : L.getD (i / 64) 0 % 2 ^ (i % 64 + 1) = 0 := by
  rw [← lv_limb h (i / 64)]
  have hd : 2 ^ (i % 64 + 1) ∣ 2 ^ 64 := Nat.pow_dvd_pow 2 (by have := Nat.mod_lt i (show 0 < 64 by omega); omega)
  rw [Nat.mod_mod_of_dvd _ hd]
  have e : i + 1 = 64 * (i / 64) + (i % 64 + 1) := by omega
  rw [e, Nat.pow_add] at h0
  rw [← Nat.mod_mul_right_div_self, h0]; simp

/-- The bit set: the one normal row of the sum. -/
theorem set_row {V i : Nat} (h0 : V % 2 ^ (i + 1) = 0) : (padded (nrow V) (i / 64)).set (i / 64) ((padded (nrow V) (i / 64)).getD (i / 64) 0 + 2 ^ (i % 64)) = nrow (V + 2 ^ i) := by
  have hf := padded_fits (nrow_fits V) (i / 64)
  have hlv : lv (padded (nrow V) (i / 64)) = V := by rw [lv_padded, lv_nrow]
  have hlen := padded_length (nrow V) (i / 64)
  have hj : i / 64 < (padded (nrow V) (i / 64)).length := by rw [hlen]; omega
  have hlow := limb_low hf i (by rw [hlv]; exact h0)
  have hm : i % 64 < 64 := Nat.mod_lt _ (by omega)
  have hs := lv_set hj ((padded (nrow V) (i / 64)).getD (i / 64) 0 + 2 ^ (i % 64))
  rw [hlv, Nat.mul_add, ← Nat.pow_add, Nat.div_add_mod] at hs
  have hv : lv ((padded (nrow V) (i / 64)).set (i / 64) ((padded (nrow V) (i / 64)).getD (i / 64) 0 + 2 ^ (i % 64))) = V + 2 ^ i := by omega
  rw [← hv]
  have hx : (padded (nrow V) (i / 64)).getD (i / 64) 0 < 2 ^ 64 := hf _ (by rw [List.getD_eq_getElem?_getD, List.getElem?_eq_getElem hj]; exact List.getElem_mem hj)
  have hx2 : (padded (nrow V) (i / 64)).getD (i / 64) 0 + 2 ^ (i % 64) < 2 ^ 64 := by
    generalize (padded (nrow V) (i / 64)).getD (i / 64) 0 = x at *
    generalize i % 64 = m at *
    have e1 : x = 2 ^ (m + 1) * (x / 2 ^ (m + 1)) := by have := Nat.div_add_mod x (2 ^ (m + 1)); omega
    have e2 : (2 : Nat) ^ 64 = 2 ^ (m + 1) * 2 ^ (63 - m) := by rw [← Nat.pow_add]; congr 1; omega
    have h3 : x / 2 ^ (m + 1) < 2 ^ (63 - m) := by rw [Nat.div_lt_iff_lt_mul (Nat.two_pow_pos _), Nat.mul_comm, ← e2]; exact hx
    have h4 : 2 ^ (m + 1) * (x / 2 ^ (m + 1) + 1) ≤ 2 ^ (m + 1) * 2 ^ (63 - m) := Nat.mul_le_mul_left _ h3
    rw [Nat.mul_add, ← e1, ← e2] at h4
    have h5 : 2 ^ m < 2 ^ (m + 1) := Nat.pow_lt_pow_right (by omega) (by omega)
    omega
  apply nrow_of
  · intro y hy
    rcases List.mem_or_eq_of_mem_set hy with h1 | h1
    · exact hf y h1
    · subst h1; exact hx2
  · right
    rw [List.length_set, List.getD_eq_getElem?_getD]
    by_cases hlast : i / 64 = (padded (nrow V) (i / 64)).length - 1
    · rw [← hlast, List.getElem?_set_self hj]
      have := Nat.two_pow_pos (i % 64)
      simp only [Option.getD_some]; omega
    · rw [List.getElem?_set_ne hlast, ← List.getD_eq_getElem?_getD]
      have hL : padded (nrow V) (i / 64) = nrow V := by
        unfold padded
        rw [show i / 64 + 1 - (nrow V).length = 0 by omega]; simp
      rw [hL]
      rcases nrow_last V with h1 | h1
      · exfalso; rw [hL, h1] at hj; simp at hj
      · exact h1
end Go.Proofs.Ytcdedaihkfpafaa

namespace Go.Proofs.Ytcdedaihkfpafaa
open Go.RowKit

def SetRel (B q : Nat) (L : List Nat) (w : World) (v : Value) (wr : World) : Prop :=
  ∃ (k len : Nat) (A : Option Addr) (cap : Nat), k ≤ q + 1 - L.length ∧ v = .slice A len cap ∧ len = L.length + k ∧ wr.ownsRow B 42 1 (.slice A len cap) len (U (L ++ List.replicate k 0)) ∧ Below B w wr
def SetPost (B n : Nat) (w : World) (e : Ending) (w' : World) : Prop := ∃ v, e = .returned v ∧ NRow B w' v (nrow n) ∧ Below B w w'
def sliceLen : Value → Nat | .slice _ n _ => n | _ => 0

set_option maxHeartbeats 4000000 in
theorem nset_v (B : Nat) (v : Value) (V i : Nat) (j : Int) (w : World) (hB : B ≤ w.heap.size) (hrow : NRow B w v (nrow V)) (hlen : (nrow V).length ≤ 1048576) (hj : j = (i : Int)) (hi64 : i ≤ 67108864) (h0 : V % 2 ^ (i + 1) = 0) :
    Calls Try.prog 35 #[v, .int .i64 j] w (SetPost B (V + 2 ^ i) w) := by
  obtain ⟨i0, hi, hz0, hz1, hz2⟩ := info_parts info_u64
  obtain ⟨A, cap, rfl, _, _, _⟩ := hrow.at_
  obtain ⟨L, hL⟩ : ∃ L, L = nrow V := ⟨_, rfl⟩
  rw [← hL] at hrow hlen ⊢
  obtain ⟨q, hq⟩ : ∃ q, q = i / 64 := ⟨_, rfl⟩
  obtain ⟨m, hm⟩ : ∃ m, m = i % 64 := ⟨_, rfl⟩
  have hqI : j / 64 = (q : Int) := by omega
  have hmI : j % 64 = (m : Int) := by omega
  have hm63 : (m : Int) ≤ 63 := by omega
  have hj0 : 0 ≤ j := by omega
  have hj9 : j ≤ 67108864 := by omega
  have hq9 : q ≤ 1048576 := by omega
  have hfin := set_row h0
  rw [← hL, ← hq, ← hm] at hfin
  have HFIN := Lib.hid hfin
  have hlow := limb_low (padded_fits (nrow_fits V) q) i (by rw [lv_padded, lv_nrow]; exact h0)
  rw [← hL, ← hq, ← hm] at hlow
  have HLOW := Lib.hid hlow
  have HFT : Hid (Fits (padded L q)) := Lib.hid (by rw [hL]; exact padded_fits (nrow_fits V) q)
  have HR : Hid (NRow B w (.slice A L.length cap) L) := Lib.hid hrow
  have HM : Hid (m ≤ 63) := Lib.hid (by omega)
  have HBB := Lib.hid hB
  clear hrow hj h0 hfin hlow hq hm hL hB
  go_enter Try.func35, Try.ntmps35
  go_wp2_with fail
  go_loopw [0] (fun v wr => SetRel B q L w v wr) (fun v _ => q + 1 - sliceLen v)
  case atStart => exact ⟨0, L.length, A, cap, by omega, rfl, rfl, by rw [List.replicate_zero, List.append_nil]; exact HR.out, Below.refl _ _⟩
  case round =>
    obtain ⟨k, len, A2, cap2, hk, rfl, hlen2, how, hbel⟩ := hrel
    have HOW := Lib.hid how
    have HBL := Lib.hid hbel
    have HLEN := Lib.hid hlen2
    have hbs : B ≤ wr.heap.size := Nat.le_trans HBB.out hbel.size
    have hln : len ≤ 2097153 := by omega
    by_cases hlt : len ≤ q
    · have hltI : (len : Int) ≤ (q : Int) := by omega
      have HK : Hid (k + 1 ≤ q + 1 - L.length) := Lib.hid (by omega)
      have HL1 : Hid (len + 1 = L.length + (k + 1)) := Lib.hid (by omega)
      have HQL : Hid (len < q + 1) := Lib.hid (by omega)
      clear how hbel hlen2 hk hlt
      go_wp2_with (
        (at_builtin
         refine wpList_append_own _ rfl (.tmp 10) (.tmp 11) 23 rfl B 42 i0 _ 1 8 Try.underlying23 hi hz0 hz1 hz2 rfl (by omega) _ len (U (L ++ List.replicate k 0)) rfl ?d0 ⟨wr.heap.size, 0, none⟩ 1 1 [.int .u64 0] rfl rfl ?d1 ?d2 ?d3 ?d4 ?d5 ?_
         case d0 => exact World.ownsRow.alloc HOW.out _
         case d1 => exact (cell_one_new _ _ _)
         case d2 => intro u hu; simp at hu; subst hu; rfl
         case d3 => unfold maxLen; omega
         case d4 => omega
         case d5 => simp; omega
         intro v3 w3 hown3 hg3 _
         have HB3 : Hid (Below B w w3) := Lib.hid ((HBL.out.alloc hbs _).grown hg3 (by simp; omega) (fun k hk => (World.ownsRow.lt HOW.out k hk).1))
         have HO3 := Lib.hid hown3
         clear hown3 hg3))
      have ho3 := HO3.out
      have hform : ∃ A3 cap3, v3 = .slice A3 (len + 1) cap3 := by
        rcases ho3.2 with ⟨rfl, h⟩ | ⟨g3, cap3, cur3, rfl, _⟩
        · omega
        · exact ⟨_, _, rfl⟩
      obtain ⟨A3, cap3, rfl⟩ := hform
      have HO4 : Hid (w3.ownsRow B 42 1 (.slice A3 (len + 1) cap3) (len + 1) (U (L ++ List.replicate (k + 1) 0))) := Lib.hid (by
        have e : U (L ++ List.replicate (k + 1) 0) = U (L ++ List.replicate k 0) ++ [.int .u64 0] := by
          rw [List.replicate_succ', ← List.append_assoc, U_append (L ++ _)]; rfl
        rw [e]; exact ho3)
      clear ho3
      go_roundw
      case rel => exact ⟨k + 1, len + 1, A3, cap3, HK.out, rfl, HL1.out, HO4.out, HB3.out⟩
      case measure => have := HQL.out; simp [sliceLen]; omega
    · have hgeI : (q : Int) < (len : Int) := by omega
      have hkk : k = q + 1 - L.length := by omega
      have hpl := padded_length L q
      have how2 := how
      rw [hkk] at how2
      have hcase : ∃ g, A2 = some ⟨g, 0, none⟩ ∧ B ≤ g := by
        rcases how.2 with ⟨he, h⟩ | ⟨g3, cap3, cur3, he, hb3, _⟩
        · omega
        · injection he with h1
          exact ⟨g3, h1, hb3⟩
      obtain ⟨g, rfl, hg⟩ := hcase
      have hql : q < (padded L q).length := by omega
      have hxf : (padded L q).getD q 0 < 18446744073709551616 := by
        have h := HFT.out ((padded L q).getD q 0) (by rw [List.getD_eq_getElem?_getD, List.getElem?_eq_getElem hql]; exact List.getElem_mem hql)
        exact h
      have how3 : wr.ownsRow B 42 1 (.slice (some ⟨g, 0, none⟩) len cap2) len (U (padded L q)) := how2
      have HS : Hid ((wr.setCell ⟨g, q, none⟩ (.int .u64 (((padded L q).getD q 0 + 2 ^ m : Nat) : Int))).ownsRow B 42 1 (.slice (some ⟨g, 0, none⟩) len cap2) len (U (nrow (V + 2 ^ i)))) := Lib.hid (by
        rw [← HFIN.out, ← U_set]; exact (World.ownsRow.stored how3 q _).1)
      have HLN : Hid (len = (nrow (V + 2 ^ i)).length) := Lib.hid (by rw [← HFIN.out, List.length_set]; omega)
      have HTO : Hid ((j / 64).toNat = q) := Lib.hid (by omega)
      have hc : wr.cell? ⟨g, q, none⟩ = some (.int .u64 (((padded L q).getD q 0 : Nat) : Int)) := by
        rw [World.ownsRow.cellAt how3 q (by omega), U_get hql]
      have hf : wr.frozen? ⟨g, q, none⟩ = false := World.ownsRow.frozenAt how3 _
      obtain ⟨x, hx⟩ : ∃ x : Nat, x = (padded L q).getD q 0 := ⟨_, rfl⟩
      have hlow := HLOW.out
      rw [← hx] at hc HS hxf hlow
      have hpw2 : 2 ^ m < 18446744073709551616 := by
        have : 2 ^ m ≤ 2 ^ 63 := Nat.pow_le_pow_right (by omega) HM.out
        omega
      obtain ⟨p, hp⟩ : ∃ p : Int, p = ((2 ^ m : Nat) : Int) := ⟨_, rfl⟩
      have hsh : IntKind.u64.wrap (2 ^ m) = p := by
        have e : ((2 : Int) ^ m) = p := by rw [hp]; simp
        rw [e]; exact IntWalk.u64_in _ (by omega)
      have hor : bits .or .u64 (x : Int) p = ((x + 2 ^ m : Nat) : Int) := by
        rw [hp, u64_or_nat _ _ hxf hpw2, or_bit hlow]
      clear how how2 how3 hbel hlen2 hk hkk hpl hql hxf hx hlow hpw2 hp hlt
      go_wp2_with fail
      go_ret
      exact ⟨_, rfl, by unfold NRow; rw [← HLN.out]; exact HS.out, HBL.out.setCell (p := ⟨g, q, none⟩) hg _⟩
end Go.Proofs.Ytcdedaihkfpafaa

namespace Go.Proofs.Ytcdedaihkfpafaa
open Go.RowKit

/-- There is one root. -/
theorem root_uniq {a x y : Nat} (h1 : x * x ≤ a) (h2 : a < (x + 1) * (x + 1)) (k1 : y * y ≤ a) (k2 : a < (y + 1) * (y + 1)) : x = y := by
  rcases Nat.lt_trichotomy x y with h | h | h
  · have : (x + 1) * (x + 1) ≤ y * y := Nat.mul_le_mul h h
    omega
  · exact h
  · have : (y + 1) * (y + 1) ≤ x * x := Nat.mul_le_mul h h
    omega

def RootPost (a : Nat) (w : World) (e : Ending) (w' : World) : Prop :=
  ∃ x v, e = .returned v ∧ NRow w.heap.size w' v (nrow x) ∧ x * x ≤ a ∧ a < (x + 1) * (x + 1) ∧ Below w.heap.size w w'

def RootRel (K a T : Nat) (w : World) (o i : Value) (wr : World) : Prop :=
  ∃ t x : Nat, t ≤ T ∧ i = .int .i64 ((t : Int) - 1) ∧ NRow w.heap.size wr o (nrow x) ∧ NNum K wr o x ∧ x % 2 ^ t = 0 ∧ x * x ≤ a ∧ a < (x + 2 ^ t) * (x + 2 ^ t) ∧ Below w.heap.size w wr

theorem root_next {a x t : Nat} (h0 : x % 2 ^ (t + 1) = 0) (h2 : a < (x + 2 ^ (t + 1)) * (x + 2 ^ (t + 1))) :
    ((x + 2 ^ t) * (x + 2 ^ t) ≤ a → (x + 2 ^ t) % 2 ^ t = 0 ∧ a < (x + 2 ^ t + 2 ^ t) * (x + 2 ^ t + 2 ^ t)) ∧ (¬ (x + 2 ^ t) * (x + 2 ^ t) ≤ a → x % 2 ^ t = 0 ∧ a < (x + 2 ^ t) * (x + 2 ^ t)) := by
  have hx : x % 2 ^ t = 0 := by
    have hd : 2 ^ t ∣ 2 ^ (t + 1) := Nat.pow_dvd_pow 2 (by omega)
    exact Nat.mod_eq_zero_of_dvd (Nat.dvd_trans hd (Nat.dvd_of_mod_eq_zero h0))
  have e : x + 2 ^ t + 2 ^ t = x + 2 ^ (t + 1) := by rw [Nat.pow_succ]; omega
  constructor
  · intro _
    refine ⟨?_, by rw [e]; exact h2⟩
    rw [Nat.add_mod, hx, Nat.mod_self]; simp
  · intro h
    exact ⟨hx, by omega⟩

theorem root_start {a : Nat} : a < (0 + 2 ^ (blen a / 2 + 1)) * (0 + 2 ^ (blen a / 2 + 1)) := by
  rw [Nat.zero_add, ← Nat.pow_add]
  exact Nat.lt_of_lt_of_le (lt_blen a) (Nat.pow_le_pow_right (by omega) (by omega))

set_option maxHeartbeats 4000000 in
theorem nroot_v (K : Nat) (va : Value) (na : Nat) (w : World) (hK : K ≤ 262144) (ha : NNum K w va na) :
    Calls Try.prog 13 #[va] w (RootPost na w) := by
  have HK := Lib.hid hK
  have HA := Lib.hid ha
  obtain ⟨T, hT⟩ : ∃ T, T = blen na / 2 + 1 := ⟨_, rfl⟩
  have HT := Lib.hid hT
  have HTB : Hid (2 * T ≤ 64 * K + 2) := Lib.hid (by have := blen_le ha.lt; omega)
  obtain ⟨l, hl⟩ : ∃ l : Int, l = (blen na : Int) := ⟨_, rfl⟩
  have HL := Lib.hid hl
  have l0 : 0 ≤ l := by omega
  have l1 : l ≤ 16777216 := by have := blen_le ha.lt; omega
  clear hK ha hT hl
  go_enter Try.func13, Try.ntmps13
  go_wp2_with fail
  with_reducible refine (bits_v (by have := HK.out; omega) HA.out).mono ?_
  rintro e w' ⟨y1, hy1, rfl, rfl⟩
  obtain rfl : y1 = l := hy1.trans HL.out.symm
  clear hy1
  go_wp2_with fail
  go_loopw [3, 4] (fun o i wr => RootRel (K + 1) na T w o i wr) (fun _ i _ => (intOf i + 1).toNat)
  case atStart => exact ⟨T, 0, Nat.le_refl _, by congr 1; have := HT.out; have := HL.out; omega, NRow.nil _ _, (NRow.nil w.heap.size w).num (L := []) (fun x hx => by cases hx) (Nat.zero_le _), by simp, by simp, by rw [HT.out]; exact root_start, Below.refl _ _⟩
  case round =>
    obtain ⟨t, x, ht, rfl, hrow, hnum, hx0, hx1, hx2, hbel⟩ := hrel
    have HROW := Lib.hid hrow
    have HNUM := Lib.hid hnum
    have HBL := Lib.hid hbel
    rcases t with _ | t
    · have HE : Hid (x * x ≤ na ∧ na < (x + 1) * (x + 1)) := Lib.hid ⟨hx1, by simpa using hx2⟩
      clear hrow hnum hx0 hx1 hx2 hbel ht
      go_wp2_with fail
      go_ret
      exact ⟨x, _, rfl, HROW.out, HE.out.1, HE.out.2, HBL.out⟩
    · obtain ⟨j, hj⟩ : ∃ j : Int, j = (t : Int) := ⟨_, rfl⟩
      have HJ := Lib.hid hj
      have ej : ((t + 1 : Nat) : Int) - 1 = j := by omega
      rw [ej]
      have hj0 : 0 ≤ j := by omega
      have HTT : Hid (t + 1 ≤ T) := Lib.hid ht
      have hj9 : j ≤ 16777216 := by have := HTB.out; have := HK.out; omega
      have HX0 := Lib.hid hx0
      have HX1 := Lib.hid hx1
      have HNEXT := Lib.hid (root_next hx0 hx2)
      have HXB : Hid (x < 2 ^ (64 * K)) := Lib.hid (by
        have h1 := HA.out.lt
        have h2 : x ≤ x * x := by rcases x with _ | x; omega; exact Nat.le_mul_of_pos_right _ (by omega)
        omega)
      have HYB : Hid (x + 2 ^ t < 2 ^ (64 * (K + 1))) := Lib.hid (by
        have h1 := HXB.out
        have h2 : 2 ^ t ≤ 2 ^ (64 * K + 1) := Nat.pow_le_pow_right (by omega) (by have := HTB.out; omega)
        have h3 : 2 ^ (64 * (K + 1)) = 2 ^ (64 * K) * 18446744073709551616 := by rw [Nat.mul_add, Nat.pow_add]
        rw [Nat.pow_succ] at h2
        omega)
      have HSQ : Hid ((x + 2 ^ t) * (x + 2 ^ t) < 2 ^ (64 * (2 * K + 2))) := Lib.hid (by
        have h1 := HYB.out
        have e : 64 * (2 * K + 2) = 64 * (K + 1) + 64 * (K + 1) := by omega
        rw [e, Nat.pow_add]
        exact Nat.mul_lt_mul_of_lt_of_lt h1 h1)
      clear hrow hnum hx0 hx1 hx2 hbel ht hj ej
      go_wp2_with fail
      with_reducible refine (norm_v (K := K + 1) (by have := HK.out; omega) HNUM.out).mono ?_
      rintro e w2 hr2
      obtain ⟨v2, rfl, hw2, _, b2⟩ := hr2.out (K := K) HXB.out
      have HW2 := Lib.hid hw2
      have HB2 := Lib.hid b2
      clear hr2 hw2 b2
      go_wp2_with fail
      with_reducible refine (nset_v wr.heap.size v2 x t j w2 HB2.out.size HW2.out (Nat.le_trans (nrow_length_le HXB.out) (by have := HK.out; omega)) HJ.out (by have := HJ.out; omega) HX0.out).mono ?_
      rintro e w3 ⟨v3, rfl, hw3, b3⟩
      have HW3 := Lib.hid hw3
      have HN3 := Lib.hid (hw3.numN HYB.out)
      have HB3 : Hid (Below wr.heap.size wr w3) := Lib.hid (HB2.out.trans b3)
      have HB3w : Hid (Below w.heap.size w w3) := Lib.hid (HBL.out.trans (HB3.out.mono HBL.out.size))
      clear hw3 b3
      go_wp2_with fail
      with_reducible refine (mul_v (K := K + 1) (by have := HK.out; omega) HN3.out HN3.out).mono ?_
      rintro e w4 hr4
      obtain ⟨v4, rfl, _, hv4, b4⟩ := hr4.out HSQ.out
      have HV4 := Lib.hid hv4
      have HB4 := Lib.hid b4
      have HB4w : Hid (Below w.heap.size w w4) := Lib.hid (HB3w.out.trans (b4.mono HB3w.out.size))
      clear hr4 hv4 b4
      have HC := Lib.hid (cmp_v (K := 2 * K + 2) (by have := HK.out; omega) HV4.out ((HA.out.below HB4w.out).mono (by omega)))
      have hcv : (cmpV ((x + 2 ^ t) * (x + 2 ^ t)) na = 1 ∧ ¬ (x + 2 ^ t) * (x + 2 ^ t) ≤ na) ∨ (cmpV ((x + 2 ^ t) * (x + 2 ^ t)) na = 0 ∧ (x + 2 ^ t) * (x + 2 ^ t) ≤ na) ∨ (cmpV ((x + 2 ^ t) * (x + 2 ^ t)) na = -1 ∧ (x + 2 ^ t) * (x + 2 ^ t) ≤ na) := by
        rcases Nat.lt_trichotomy ((x + 2 ^ t) * (x + 2 ^ t)) na with h | h | h
        · exact .inr (.inr ⟨cmpV_lt h, by omega⟩)
        · exact .inr (.inl ⟨cmpV_eq h, by omega⟩)
        · exact .inl ⟨cmpV_gt h, by omega⟩
      have hc1 := HC.out
      unfold CmpPost at hc1
      rcases hcv with ⟨hcv, hle⟩ | ⟨hcv, hle⟩ | ⟨hcv, hle⟩
      · rw [hcv] at hc1
        have HC2 := Lib.hid hc1
        have HNX := Lib.hid (HNEXT.out.2 hle)
        clear hc1 hcv hle
        go_wp2_with fail
        with_reducible refine HC2.out.mono ?_
        rintro e w5 ⟨rfl, rfl⟩
        go_wp2_with fail
        go_roundw
        case rel => exact ⟨t, x, by have := HTT.out; omega, by rw [HJ.out], (HROW.out.below HB3.out (Nat.le_refl _)).below HB4.out (Nat.le_refl _), (HNUM.out.below HB3.out).below HB4.out, HNX.out.1, HX1.out, HNX.out.2, HB4w.out⟩
        case measure => have := HJ.out; simp [intOf]; omega
      all_goals
        rw [hcv] at hc1
        have HC2 := Lib.hid hc1
        have HNX := Lib.hid (HNEXT.out.1 hle)
        have HLE := Lib.hid hle
        clear hc1 hcv hle
        go_wp2_with fail
        with_reducible refine HC2.out.mono ?_
        rintro e w5 ⟨rfl, rfl⟩
        go_wp2_with fail
        go_roundw
        case rel => exact ⟨t, x + 2 ^ t, by have := HTT.out; omega, by rw [HJ.out], (HW3.out.more HBL.out.size).below HB4.out (Nat.le_refl _), HN3.out.below HB4.out, HNX.out.1, HLE.out, HNX.out.2, HB4w.out⟩
        case measure => have := HJ.out; simp [intOf]; omega
end Go.Proofs.Ytcdedaihkfpafaa

namespace Go.Proofs.Ytcdedaihkfpafaa
open Go.RowKit

/-- Decimal digits; none for 0. -/
def dec (v : Nat) : List UInt8 := if _h : v = 0 then [] else dec (v / 10) ++ [byt (48 + v % 10)]
termination_by v
decreasing_by omega
theorem dec_zero : dec 0 = [] := by rw [dec]; simp
theorem dec_step {v : Nat} (h : v ≠ 0) : dec v = dec (v / 10) ++ [byt (48 + v % 10)] := by rw [dec, dif_neg h]
theorem dec_length {v k : Nat} (h : v < 10 ^ k) : (dec v).length ≤ k := by
  induction k generalizing v with
  | zero =>
    have : v = 0 := by simpa using h
    subst this; rw [dec_zero]; simp
  | succ k ih =>
    by_cases h0 : v = 0
    · subst h0; rw [dec_zero]; simp
    · rw [dec_step h0, List.length_append]
      have := ih (v := v / 10) (by rw [Nat.div_lt_iff_lt_mul (by omega)]; rw [Nat.pow_succ] at h; exact h)
      simp; omega
/-- A number's text. -/
def decT (v : Nat) : List UInt8 := if v = 0 then [48] else dec v
theorem dec_ne {v : Nat} (h : v ≠ 0) : dec v ≠ [] := by rw [dec_step h]; simp

theorem num_ten {w : World} (T : TypeId) : NNum 1 (w.alloc (.cells #[.int .u64 10] T)) (.slice (some ⟨w.heap.size, 0, none⟩) 1 1) 10 := num_lit (d := 10) T (by decide)

def TextRel (K na : Nat) (w : World) (a s : Value) (wr : World) : Prop :=
  ∃ (x : Nat) (A : Option Addr) (cap : Nat) (l : List UInt8), a = .slice A (nrow x).length cap ∧ NNum K wr a x ∧ s = .string (mk l) ∧ dec x ++ l = dec na ∧ Below w.heap.size w wr
def StrPost (l : List UInt8) (w : World) (e : Ending) (w' : World) : Prop := e = .returned (.string (mk l)) ∧ Below w.heap.size w w'
end Go.Proofs.Ytcdedaihkfpafaa

namespace Go.Proofs.Ytcdedaihkfpafaa
open Go.RowKit

/-- The number that digits tell. -/
def val10 (l : List UInt8) : Nat := l.foldl (fun a b => a * 10 + (b.toNat - 48)) 0
theorem val10_snoc (l : List UInt8) (b : UInt8) : val10 (l ++ [b]) = val10 l * 10 + (b.toNat - 48) := by simp [val10]
/-- Is it a digit? -/
def isD (b : UInt8) : Prop := 48 ≤ b.toNat ∧ b.toNat ≤ 57
def allD (l : List UInt8) : Prop := ∀ b ∈ l, isD b
theorem allD_snoc {l : List UInt8} {b : UInt8} (h : allD l) (hb : isD b) : allD (l ++ [b]) := by
  intro x hx
  rcases List.mem_append.1 hx with hx | hx
  · exact h x hx
  · simp at hx; subst hx; exact hb
theorem val10_lt {l : List UInt8} (h : allD l) : val10 l < 10 ^ l.length := by
  induction hn : l.length generalizing l with
  | zero =>
    have : l = [] := List.eq_nil_of_length_eq_zero hn
    subst this; simp [val10]
  | succ k ih =>
    obtain ⟨r, c, rfl⟩ := snoc_of hn
    have hk : r.length = k := by simpa using hn
    have h1 := ih (l := r) (fun b hb => h b (by simp [hb])) hk
    have h2 := h c (by simp)
    unfold isD at h2
    rw [val10_snoc, Nat.pow_succ]
    omega
theorem val10_big {l : List UInt8} (h : allD l) (hl : l.length ≤ 40000) (K : Nat) (hK : 2500 ≤ K) : val10 l < 2 ^ (64 * K) := by
  have h1 := val10_lt h
  have h2 : 10 ^ l.length ≤ 16 ^ l.length := Nat.pow_le_pow_left (by omega) _
  have h3 : (16 : Nat) ^ l.length = 2 ^ (4 * l.length) := by rw [Nat.pow_mul]
  have h4 : 2 ^ (4 * l.length) ≤ 2 ^ (64 * K) := Nat.pow_le_pow_right (by omega) (by omega)
  omega

open Classical in
/-- What a text is read as, and the error's number. -/
noncomputable def parseV (l : List UInt8) : Nat × Int := if 40000 < l.length then (0, 3) else if l = [] then (0, 5) else if allD l then (val10 l, 0) else (0, 5)
def ParsePost (n : Nat) (c : Int) (w : World) (e : Ending) (w' : World) : Prop := ∃ v, e = .returned (.tuple #[v, .int .i64 c]) ∧ NRow w.heap.size w' v (nrow n) ∧ Below w.heap.size w w'

def ParseRel (l : List UInt8) (w : World) (v i : Value) (wr : World) : Prop :=
  ∃ k : Nat, k ≤ l.length ∧ i = .int .i64 (k : Int) ∧ NRow w.heap.size wr v (nrow (val10 (l.take k))) ∧ allD (l.take k) ∧ Below w.heap.size w wr

theorem below_of_drew {w w1 : World} (h : Below w.drew.heap.size w.drew w1) : Below w.heap.size w w1 := ⟨h.os, h.tape, h.output, h.size, h.block⟩
theorem lit_at {w : World} {d g : Nat} (T : TypeId) (hd : d < 2 ^ 64) (hg : g = w.heap.size) : NNum 1 (w.alloc (.cells #[.int .u64 (d : Int)] T)) (.slice (some ⟨g, 0, none⟩) 1 1) d := by subst hg; exact num_lit T hd
theorem ten_at {w : World} {g : Nat} (T : TypeId) (hg : g = w.heap.size) : NNum 1 (w.alloc (.cells #[.int .u64 10] T)) (.slice (some ⟨g, 0, none⟩) 1 1) 10 := by subst hg; exact num_ten T
end Go.Proofs.Ytcdedaihkfpafaa
