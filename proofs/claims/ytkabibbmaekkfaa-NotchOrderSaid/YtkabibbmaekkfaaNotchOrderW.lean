/-
  LAYER 1: the walk of NotchOrder.
-/
import Derived.Test.YtkabibbmaekkfaaNotchHead
import Derived.Test.YtkabibbmaekkfaaNotchOrd
import Derived.Deep.QuietTactic
import Derived.BigQuiet
namespace Go.Proofs.Ytkabibbmaekkfaa
open Go.RowKit

theorem below_boxed {w w1 : World} {o : Obj} {n : Nat} (h : Below ((w.alloc o).drewN n).heap.size ((w.alloc o).drewN n) w1) : Below w.heap.size w w1 :=
  ((Below.refl _ w).alloc (Nat.le_refl _) o).trans ⟨h.os, h.tape, h.output, h.size, fun k hk => h.block k (Nat.lt_of_lt_of_le hk (by show w.heap.size ≤ (w.heap.push o).size; simp))⟩

set_option maxHeartbeats 1000000 in
theorem order_long (a b : Nat) (s t : ByteArray) (w : World) (h : 100 < s.size ∨ (¬ 100 < s.size ∧ 100 < t.size)) :
    Calls Try.prog 6 #[.agg #[.int .u64 (a : Int), .int .u64 (b : Int), .string s, .string t]] w fun e w' => e = .returned (.bool true) ∧ Below w.heap.size w w' := by
  rcases h with h | ⟨hns, h⟩
  · have h' : (100 : Int) < (s.size : Int) := by omega
    go_enter Try.func6, Try.ntmps6
    go_wp2
    go_quiet (fail)
    go_wp2_with (go_at_call 10; refine (head_any _).mono ?_; rintro e w1 ⟨rfl, b1⟩)
    go_ret
    exact ⟨rfl, below_boxed b1⟩
  · by_cases hs : 100 < s.size
    · exact absurd hs hns
    · have hs' : (s.size : Int) ≤ 100 := by omega
      have h' : (100 : Int) < (t.size : Int) := by omega
      go_enter Try.func6, Try.ntmps6
      go_wp2
      go_quiet (fail)
      go_wp2_with (go_at_call 10; refine (head_any _).mono ?_; rintro e w1 ⟨rfl, b1⟩)
      go_ret
      exact ⟨rfl, below_boxed b1⟩

/-- Num of one number, held in a slice of its own. -/
theorem num_one (g n : Nat) (v : World) (hg : v.heap.size = g) (hn : n < 2 ^ 64) :
    Calls Try.prog 13 #[.slice (some ⟨g, 0, none⟩) 1 1] (v.alloc (.cells #[.int .u64 (n : Int)] 25)) fun e w' => e = .returned (.string (mk (numB n))) ∧ Below v.heap.size v w' := by
  subst hg
  refine (num_any v.heap.size 0 1 [n] _ (by simp) (by simpa using hn) (by simp) ?cb).mono ?_
  case cb =>
    intro i hi
    have hi0 : i = 0 := by simpa using hi
    subst hi0
    rw [World.cell?_alloc_at _ _ _ _ rfl]; rfl
  rintro e w1 ⟨rfl, hb⟩
  exact ⟨by simp [numsB], ((Below.refl _ _).alloc (Nat.le_refl _) _).trans (hb.mono (by simp))⟩

set_option maxHeartbeats 1000000 in
theorem order_same (a : Nat) (s t : ByteArray) (w : World) (ha : a < 2 ^ 64) (hs : s.size ≤ 100) (ht : t.size ≤ 100) :
    Calls Try.prog 6 #[.agg #[.int .u64 (a : Int), .int .u64 (a : Int), .string s, .string t]] w fun e w' => e = .returned (.bool true) ∧ Below w.heap.size w w' := by
  go_enter Try.func6, Try.ntmps6
  go_wp2
  go_quiet (fail)
  go_wp2_with fail
  refine (num_one _ a _ (by simp) ha).mono ?_
  rintro e w1 ⟨rfl, b1⟩
  have hb1 : Below w.heap.size w w1 := below_boxed b1
  clear b1
  have hz1 := hb1.size
  go_wp2_with fail
  refine (num_one _ a _ (by simp) ha).mono ?_
  rintro e w2 ⟨rfl, b2⟩
  have hb2 : Below w.heap.size w w2 := hb1.trans (b2.mono hz1)
  clear b2
  generalize mk (numB a) = x
  go_wp2_with (go_at_call 10; refine (head_any _).mono ?_; rintro e w3 ⟨rfl, b3⟩)
  go_ret
  exact ⟨rfl, hb2.trans (b3.mono hb2.size)⟩

theorem mk_toList' (l : List UInt8) : (mk l).toList = l := ByteArray.toList_mk l

theorem no_prefix {m n : Nat} (hm : m < 2 ^ 64) (hn : n < 2 ^ 64) (h : m ≠ n) : ((mk (numB n)).extract 0 (mk (numB m)).size).toList ≠ (mk (numB m)).toList := by
  rw [mk_extract, mk_toList', mk_toList', mk_size, List.drop_zero]
  intro e
  exact h (prefix_numB hm hn (x := (numB n).drop (numB m).length) (by have h2 := List.take_append_drop (numB m).length (numB n); rw [e] at h2; exact h2))

set_option maxHeartbeats 2000000 in
theorem order_lt (a b : Nat) (s t : ByteArray) (w : World) (ha : a < 2 ^ 64) (hb : b < 2 ^ 64) (hs : s.size ≤ 100) (ht : t.size ≤ 100) (hab : a < b) :
    Calls Try.prog 6 #[.agg #[.int .u64 (a : Int), .int .u64 (b : Int), .string s, .string t]] w fun e w' => e = .returned (.bool true) ∧ Below w.heap.size w w' := by
  have q1 := no_prefix ha hb (by omega)
  have q2 := no_prefix hb ha (by omega)
  have hl : Op.bytesLess (mk (numB a) ++ s).toList (mk (numB b) ++ t).toList = true := by
    obtain ⟨s, rfl⟩ : ∃ l, s = mk l := ⟨s.data.toList, (mk_of s).symm⟩
    obtain ⟨t, rfl⟩ : ∃ l, t = mk l := ⟨t.data.toList, (mk_of t).symm⟩
    rw [mk_append, mk_append, mk_toList', mk_toList']
    exact (less_numB hb hab _ _).1
  have hlen : ((numB a).length : Int) ≤ ((numB b).length : Int) := by
    rw [numB_length, numB_length]; have := wid_mono (Nat.le_of_lt hab); omega
  have hle : (mk (numB a)).size ≤ (mk (numB b)).size := by
    rw [mk_size, mk_size, numB_length, numB_length]; have := wid_mono (Nat.le_of_lt hab); omega
  have Q1 := Lib.hid q1
  have Q2 := Lib.hid q2
  have HLE := Lib.hid hle
  have HL := Lib.hid hl
  clear q1 q2 hl hle
  have hne : ((a : Int) == (b : Int)) = false := by rw [beq_eq_false_iff_ne]; omega
  go_enter Try.func6, Try.ntmps6
  go_wp2
  go_quiet (fail)
  go_wp2_with fail
  refine (num_one _ a _ (by simp) ha).mono ?_
  rintro e w1 ⟨rfl, b1⟩
  have hb1 : Below w.heap.size w w1 := below_boxed b1
  clear b1
  have hz1 := hb1.size
  go_wp2_with fail
  refine (num_one _ b _ (by simp) hb).mono ?_
  rintro e w2 ⟨rfl, b2⟩
  have hb2 : Below w.heap.size w w2 := hb1.trans (b2.mono hz1)
  clear b2 hb1 hz1
  have hxs : (mk (numB a)).size ≤ 9 := by rw [mk_size, numB_length]; have := wid_le a; omega
  have hys : (mk (numB b)).size ≤ 9 := by rw [mk_size, numB_length]; have := wid_le b; omega
  generalize mk (numB a) = x at *
  generalize mk (numB b) = y at *
  have hl := HL.out
  have q1 := Q1.out
  have q2 := Q2.out
  have q1b : ((y.extract 0 x.size).toList == x.toList) = false := by rw [beq_eq_false_iff_ne]; exact q1
  have q2b : ((x.extract 0 y.size).toList == y.toList) = false := by rw [beq_eq_false_iff_ne]; exact q2
  have hle := HLE.out
  by_cases heq : y.size ≤ x.size
  all_goals
    go_wp2_with fail
    refine (long_any a _ ha).mono ?_
    rintro e w3 ⟨rfl, rfl⟩
    go_wp2_with fail
    refine (long_any b _ hb).mono ?_
    rintro e w3 ⟨rfl, rfl⟩
    go_wp2_with (go_at_call 10; refine (head_any _).mono ?_; rintro e w3 ⟨rfl, b3⟩)
    go_ret
    exact ⟨rfl, hb2.trans (b3.mono hb2.size)⟩

set_option maxHeartbeats 2000000 in
theorem order_gt (a b : Nat) (s t : ByteArray) (w : World) (ha : a < 2 ^ 64) (hb : b < 2 ^ 64) (hs : s.size ≤ 100) (ht : t.size ≤ 100) (hab : b < a) :
    Calls Try.prog 6 #[.agg #[.int .u64 (a : Int), .int .u64 (b : Int), .string s, .string t]] w fun e w' => e = .returned (.bool true) ∧ Below w.heap.size w w' := by
  have q1 := no_prefix ha hb (by omega)
  have q2 := no_prefix hb ha (by omega)
  have hl : Op.bytesLess (mk (numB a) ++ s).toList (mk (numB b) ++ t).toList = false := by
    obtain ⟨s, rfl⟩ : ∃ l, s = mk l := ⟨s.data.toList, (mk_of s).symm⟩
    obtain ⟨t, rfl⟩ : ∃ l, t = mk l := ⟨t.data.toList, (mk_of t).symm⟩
    rw [mk_append, mk_append, mk_toList', mk_toList']
    exact (less_numB ha hab _ _).2
  have hgt : (b : Int) < (a : Int) := by omega
  have hle : (mk (numB b)).size ≤ (mk (numB a)).size := by
    rw [mk_size, mk_size, numB_length, numB_length]; have := wid_mono (Nat.le_of_lt hab); omega
  have Q1 := Lib.hid q1
  have Q2 := Lib.hid q2
  have HLE := Lib.hid hle
  have HL := Lib.hid hl
  clear q1 q2 hl hle
  have hne : ((a : Int) == (b : Int)) = false := by rw [beq_eq_false_iff_ne]; omega
  go_enter Try.func6, Try.ntmps6
  go_wp2
  go_quiet (fail)
  go_wp2_with fail
  refine (num_one _ a _ (by simp) ha).mono ?_
  rintro e w1 ⟨rfl, b1⟩
  have hb1 : Below w.heap.size w w1 := below_boxed b1
  clear b1
  have hz1 := hb1.size
  go_wp2_with fail
  refine (num_one _ b _ (by simp) hb).mono ?_
  rintro e w2 ⟨rfl, b2⟩
  have hb2 : Below w.heap.size w w2 := hb1.trans (b2.mono hz1)
  clear b2 hb1 hz1
  have hxs : (mk (numB a)).size ≤ 9 := by rw [mk_size, numB_length]; have := wid_le a; omega
  have hys : (mk (numB b)).size ≤ 9 := by rw [mk_size, numB_length]; have := wid_le b; omega
  generalize mk (numB a) = x at *
  generalize mk (numB b) = y at *
  have hl := HL.out
  have q1 := Q1.out
  have q2 := Q2.out
  have q1b : ((y.extract 0 x.size).toList == x.toList) = false := by rw [beq_eq_false_iff_ne]; exact q1
  have q2b : ((x.extract 0 y.size).toList == y.toList) = false := by rw [beq_eq_false_iff_ne]; exact q2
  have hle := HLE.out
  by_cases heq : x.size ≤ y.size
  all_goals by_cases hlen : ((numB a).length : Int) ≤ ((numB b).length : Int)
  all_goals
    go_wp2_with fail
    refine (long_any a _ ha).mono ?_
    rintro e w3 ⟨rfl, rfl⟩
    go_wp2_with fail
    refine (long_any b _ hb).mono ?_
    rintro e w3 ⟨rfl, rfl⟩
    go_wp2_with (go_at_call 10; refine (head_any _).mono ?_; rintro e w3 ⟨rfl, b3⟩)
    go_ret
    exact ⟨rfl, hb2.trans (b3.mono hb2.size)⟩

theorem order_any (a b : Nat) (s t : ByteArray) (w : World) (ha : a < 2 ^ 64) (hb : b < 2 ^ 64) :
    Calls Try.prog 6 #[.agg #[.int .u64 (a : Int), .int .u64 (b : Int), .string s, .string t]] w fun e w' => e = .returned (.bool true) ∧ Below w.heap.size w w' := by
  by_cases hs : 100 < s.size
  · exact order_long a b s t w (.inl hs)
  by_cases ht : 100 < t.size
  · exact order_long a b s t w (.inr ⟨hs, ht⟩)
  rcases Nat.lt_trichotomy a b with h | h | h
  · exact order_lt a b s t w ha hb (by omega) (by omega) h
  · subst h; exact order_same a s t w ha (by omega) (by omega)
  · exact order_gt a b s t w ha hb (by omega) (by omega) h
end Go.Proofs.Ytkabibbmaekkfaa
