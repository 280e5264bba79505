/-
  LAYER 2: the document's More, Rest, Seal and Open.
-/
import Derived.Test.YtemekdoogocapaaDoorCastRef
namespace Go.Proofs.YtemekdoogocapaaDoor
open Go.RowKit

theorem cmore_take (r : Nat) (l : List UInt8) (k : Nat) (h : k < l.length) : cmore r (l.take (k + 1)) = (256 * cmore r (l.take k) + (l[k]'h).toNat) % PR := by
  rw [List.take_succ_eq_append_getElem h, cmore_snoc]

def MoreRel (n : Nat) (l : List UInt8) (r i : Value) : Prop := ∃ (k : Nat) (y : Int), k ≤ l.length ∧ i = .int .i64 (k : Int) ∧ r = .int .u64 y ∧ Res y (cmore n (l.take k))

set_option maxHeartbeats 1000000 in
theorem refMore_any (x : Int) (n : Nat) (l : List UInt8) (w : World) (hx : Res x n) (h64 : n < 2 ^ 64) (hl : l.length ≤ 1099511627776) :
    Calls Tryd.prog 12 #[.int .u64 x, .string (mk l)] w (Num w (cmore n l)) := by
  have hx0 : 0 ≤ x := by unfold Res at hx; omega
  have H0 : Hid (Res (x % 2305843009213693951) (cmore n [])) := by
    unfold Res at hx
    show x % 2305843009213693951 = _
    rw [cmore_nil, PR_eq]; omega
  have hs : (mk l).size ≤ 1099511627776 := by rw [mk_size]; exact hl
  have HS := Lib.hid (mk_size l)
  clear h64
  go_enter Tryd.func12, Tryd.ntmps12
  go_wp2_with fail
  go_loop [0, 5] (fun r i => MoreRel n l r i) (fun _ i => l.length - (intOf i).toNat)
  case atStart => exact ⟨0, _, by omega, rfl, rfl, H0.out⟩
  case round =>
    obtain ⟨k, y, hk, rfl, rfl, hy⟩ := hrel
    have HY := Lib.hid hy
    clear hy
    have hk0 : (0 : Int) ≤ (k : Int) := by omega
    by_cases hlt : k < l.length
    · have hkI : (k : Int) < (((mk l).size : Nat) : Int) := by rw [mk_size]; omega
      have hkN : k < (mk l).size := by omega
      have ek : ∀ hq, (mk l)[k]'hq = l[k]'hlt := fun _ => rfl
      have HT := Lib.hid (cmore_take n l k hlt)
      generalize l[k]'hlt = b at *
      go_wp2_with (go_at_call 21; refine (digit_any y _ b _ HY.out (cmore_lt _ _)).mono ?_; rintro e w' ⟨z, hz, rfl, rfl⟩; have HZ := Lib.hid hz; clear hz)
      go_round
      case rel => exact ⟨k + 1, z, by omega, by go_num, rfl, by rw [HT.out]; exact HZ.out⟩
      case measure => simp [intOf]; omega
    · have hkI : (((mk l).size : Nat) : Int) ≤ (k : Int) := by rw [mk_size]; omega
      have HE : Hid (l.take k = l) := Lib.hid (List.take_of_length_le (by omega))
      go_wp2_with fail
      go_ret
      exact ⟨y, by have h := HY.out; rw [HE.out] at h; exact h, rfl, rfl⟩

set_option maxHeartbeats 400000 in
theorem refRest_any (l : List UInt8) (w : World) (hl : l.length ≤ 1099511627776) :
    Calls Tryd.prog 14 #[.string (mk l)] w (Num w (crest l)) := by
  go_enter Tryd.func14, Tryd.ntmps14
  go_wp2_with (go_at_call 12; refine (refMore_any 1 1 l _ rfl (by omega) hl).mono ?_; rintro e w' ⟨z, hz, rfl, rfl⟩; have HZ := Lib.hid hz; clear hz)
  go_ret
  exact ⟨z, HZ.out, rfl, rfl⟩

def EightRel (n B : Nat) (w : World) (r s i : Value) (wr : World) : Prop := ∃ k : Nat, k ≤ 8 ∧ i = .int .i64 (k : Int) ∧ r = .int .u64 ((n / 256 ^ k : Nat) : Int) ∧ s = .string (mk (digs k n)) ∧ Below B w wr

set_option maxHeartbeats 1000000 in
theorem eight_any (n : Nat) (w : World) (h64 : n < 2 ^ 64) :
    Calls Tryd.prog 24 #[.int .u64 (n : Int)] w fun e w' => e = .returned (.string (mk (digs 8 n))) ∧ Below w.heap.size w w' := by
  go_enter Tryd.func24, Tryd.ntmps24
  go_wp2_with fail
  go_loopw [0, 3, 4] (fun r s i wr => EightRel n w.heap.size w r s i wr) (fun _ _ i _ => 8 - (intOf i).toNat)
  case atStart => exact ⟨0, by omega, rfl, by simp, rfl, Below.refl _ _⟩
  case round =>
    obtain ⟨k, hk, rfl, rfl, rfl, hbel⟩ := hrel
    have hbs := hbel.size
    have hm : n / 256 ^ k < 2 ^ 64 := Nat.lt_of_le_of_lt (Nat.div_le_self _ _) h64
    by_cases hlt : k < 8
    · have hkI : (k : Int) < 8 := by omega
      have HM : Hid (n / 256 ^ k / 256 = n / 256 ^ (k + 1)) := Lib.hid (by rw [Nat.div_div_eq_div_mul, Nat.pow_succ])
      have HD := Lib.hid (digs_head k n)
      have hdl : (mk (digs k n)).size ≤ 8 := by rw [mk_size, digs_length]; omega
      generalize n / 256 ^ k = m at *
      have hcv := conv_one wr _ rfl (m % 256) (by omega)
      rw [show ((m % 256 : Nat) : Int) = (m : Int) % 256 from by omega] at hcv
      have HA : Hid (mk [byt (m % 256)] ++ mk (digs k n) = mk (digs (k + 1) n)) := Lib.hid (by rw [mk_append, HD.out]; rfl)
      have hadd : (mk [byt (m % 256)]).size + (mk (digs k n)).size ≤ 9223372036854775807 := by rw [mk_size]; simp; omega
      clear h64
      go_wp2_with fail
      go_roundw
      case rel => exact ⟨k + 1, by omega, by go_num, by rw [← HM.out]; go_num, by rw [← HA.out], hbel.alloc hbs _⟩
      case measure => simp [intOf]; omega
    · obtain rfl : k = 8 := by omega
      go_wp2_with fail
      go_ret
      exact ⟨rfl, hbel⟩

set_option maxHeartbeats 400000 in
theorem refSeal_any (l : List UInt8) (w : World) (hl : l.length ≤ 1099511627776) :
    Calls Tryd.prog 18 #[.string (mk l)] w fun e w' => e = .returned (.string (mk (cseal l))) ∧ Below w.heap.size w w' := by
  have hlt := crest_lt l
  have h64 : crest l < 2 ^ 64 := by rw [PR_eq] at hlt; omega
  have HE := Lib.hid (show mk l ++ mk (digs 8 (crest l)) = mk (cseal l) by rw [mk_append]; rfl)
  have hadd : (mk l).size + (mk (digs 8 (crest l))).size ≤ 9223372036854775807 := by rw [mk_size, mk_size, digs_length]; omega
  clear hlt
  go_enter Tryd.func18, Tryd.ntmps18
  go_wp2_with fail
  refine (refRest_any l w hl).mono ?_
  rintro e w' ⟨z, hz, rfl, rfl⟩
  unfold Res at hz
  subst hz
  go_wp2_with fail
  refine (eight_any _ w h64).mono ?_
  rintro e w1 ⟨rfl, b1⟩
  go_wp2
  go_ret
  exact ⟨by rw [← HE.out]; rfl, b1⟩

def OpenPost (w : World) (t : List UInt8) (e : Ending) (w' : World) : Prop := e = .returned (.tuple #[.string (mk (copen t).1), .bool (copen t).2]) ∧ Below w.heap.size w w'

set_option maxHeartbeats 1000000 in
theorem refOpen_any (t : List UInt8) (w : World) (hl : t.length ≤ 1099511627776) :
    Calls Tryd.prog 16 #[.string (mk t)] w (OpenPost w t) := by
  have hs : (mk t).size ≤ 1099511627776 := by rw [mk_size]; exact hl
  by_cases h8 : t.length < 8
  · have h8I : (((mk t).size : Nat) : Int) < 8 := by rw [mk_size]; omega
    have HX : Hid (copen t = ([], false)) := Lib.hid (by unfold copen; rw [if_neg (by omega)])
    go_enter Tryd.func16, Tryd.ntmps16
    go_wp2_with fail
    go_ret2
    exact ⟨by rw [HX.out]; rfl, Below.refl _ _⟩
  · have h8I : 8 ≤ (((mk t).size : Nat) : Int) := by rw [mk_size]; omega
    have h8N : 8 ≤ (mk t).size := by omega
    have E1 := Lib.hid (show (mk t).extract 0 ((mk t).size - 8) = mk (t.take (t.length - 8)) by rw [mk_extract, mk_size]; simp)
    have hul : (t.take (t.length - 8)).length ≤ 1099511627776 := by rw [List.length_take]; omega
    by_cases he : cseal (t.take (t.length - 8)) = t
    · have HX : Hid (copen t = (t.take (t.length - 8), true)) := Lib.hid (by unfold copen; rw [if_pos ⟨by omega, he⟩])
      have hne : (!((mk (cseal (t.take (t.length - 8)))).toList == (mk t).toList)) = false := by rw [he]; simp
      clear he
      generalize t.take (t.length - 8) = u at *
      go_enter Tryd.func16, Tryd.ntmps16
      go_wp2_with fail
      rw [E1.out]
      refine (refSeal_any u w hul).mono ?_
      rintro e w1 ⟨rfl, b1⟩
      go_wp2_with fail
      go_ret2
      exact ⟨by rw [HX.out, ← E1.out]; rfl, b1⟩
    · have HX : Hid (copen t = ([], false)) := Lib.hid (by unfold copen; rw [if_neg (fun h => he h.2)])
      have hne : (!((mk (cseal (t.take (t.length - 8)))).toList == (mk t).toList)) = true := by rw [mk_eq]; simpa using he
      clear he
      generalize t.take (t.length - 8) = u at *
      go_enter Tryd.func16, Tryd.ntmps16
      go_wp2_with fail
      rw [E1.out]
      refine (refSeal_any u w hul).mono ?_
      rintro e w1 ⟨rfl, b1⟩
      go_wp2_with fail
      go_ret2
      exact ⟨by rw [HX.out]; rfl, b1⟩
end Go.Proofs.YtemekdoogocapaaDoor
