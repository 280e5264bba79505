/-
  LAYER 1: the walk of NotchOnce: what a reader tells well, put again, is what it went through.
-/
import Derived.Test.YtkabibbmaekkfaaNotchHead
import Derived.Deep.QuietTactic
import Derived.BigQuiet
namespace Go.Proofs.Ytkabibbmaekkfaa
open Go.RowKit

/-- Num of one number, held in a slice of its own. -/
theorem num_single (g n : Nat) (v : World) (hg : v.heap.size = g) (hn : n < 2 ^ 64) :
    Calls Try.prog 13 #[.slice (some ⟨g, 0, none⟩) 1 1] (v.alloc (.cells #[.int .u64 (n : Int)] 25)) fun e w' => e = .returned (.string (mk (numB n))) ∧ Below v.heap.size v w' := by
  subst hg
  refine (num_any v.heap.size 0 1 [n] _ (by simp) (by simpa using hn) (by simp) ?cb).mono ?_
  case cb =>
    intro i hi
    have hi0 : i = 0 := by simpa using hi
    subst hi0
    rw [World.cell?_alloc_at _ _ _ _ rfl]; rfl
  rintro e w1 ⟨rfl, hb⟩
  exact ⟨by simp [numsB], ((Below.refl _ _).alloc (Nat.le_refl _) _).trans (hb.mono (by simp))⟩

/-- A step that went well: what is put again, and what is left. -/
def Well (rest u rest' : List UInt8) (st : Nat) : Prop := (st = 1 ∧ u ++ rest' = rest) ∨ (st = 2 ∧ rest' = [])

theorem well_num (rest : List UInt8) : Well rest (numB (rNum rest 1).1) (rNum rest 1).2.1 (rNum rest 1).2.2 := by
  by_cases h : okNum rest = true
  · left; simp [rNum, h]; exact numB_numOf h
  · right; simp [rNum, h]
theorem rNum_lt (rest : List UInt8) : (rNum rest 1).1 < 2 ^ 64 := by
  by_cases h : okNum rest = true
  · simp [rNum, h]; exact numOf_lt h
  · simp [rNum, h]
theorem well_take (rest : List UInt8) (n : Int) : Well rest (rTake rest 1 n).1 (rTake rest 1 n).2.1 (rTake rest 1 n).2.2 := by
  by_cases h : 0 ≤ n ∧ n ≤ rest.length
  · left; simp [rTake, h]
  · right; simp [rTake, h]
theorem well_text (rest : List UInt8) (n : Int) : Well rest (textB (rText rest 1 n).1) (rText rest 1 n).2.1 (rText rest 1 n).2.2 := by
  by_cases h : okNum rest = true ∧ 0 ≤ n ∧ (numOf rest : Int) ≤ n
  · have e : rText rest 1 n = rTake (numRest rest) 1 (numOf rest : Nat) := by simp [rText, h]
    rw [e, rTake_ok]
    split
    · rename_i hle
      left
      refine ⟨rfl, ?_⟩
      have hlen : ((numRest rest).take (numOf rest)).length = numOf rest := by rw [List.length_take]; omega
      simp only [textB, hlen]
      rw [List.append_assoc, List.take_append_drop]
      exact numB_numOf h.1
    · right; exact ⟨rfl, rfl⟩
  · right
    have e : rText rest 1 n = ([], [], 2) := by unfold rText; rw [if_pos rfl, if_neg h]
    rw [e]; exact ⟨rfl, rfl⟩

theorem rTake_len (l : List UInt8) (n : Int) : (rTake l 1 n).1.length ≤ l.length := by
  unfold rTake
  rw [if_pos rfl]
  split
  · simp; omega
  · simp
theorem rText_len (l : List UInt8) (n : Int) : (rText l 1 n).1.length ≤ l.length := by
  unfold rText
  rw [if_pos rfl]
  split
  · exact Nat.le_trans (rTake_len _ _) (numRest_length l)
  · simp

set_option maxHeartbeats 1000000 in
theorem once_long (s : ByteArray) (v : Value) (w : World) (h : 3000 < s.size) :
    Calls Try.prog 7 #[.string s, v] w fun e w' => e = .returned (.bool true) ∧ Below w.heap.size w w' := by
  have h' : (3000 : Int) < (s.size : Int) := by omega
  go_enter Try.func7, Try.ntmps7
  go_wp2_with (go_at_call 10; refine (head_any _).mono ?_; rintro e w1 ⟨rfl, b1⟩)
  go_ret
  exact ⟨rfl, b1⟩

theorem mk_toL (l : List UInt8) : (mk l).toList = l := ByteArray.toList_mk l

/-- What the law's last test asks, where a step went well. -/
theorem once_facts (l done u rest : List UInt8) (h : (done ++ u) ++ rest = l) :
    ((done.length : Int) + ((mk u).size : Int) ≤ ((mk l).size : Int)) ∧
    (((mk l).extract done.length (done.length + (mk u).size)).toList = (mk u).toList) ∧
    ((((rest.length : Nat) : Int) != ((mk l).size : Int) - (done.length : Int) - ((mk u).size : Int)) = false) ∧
    ((done.length : Int) + ((mk u).size : Int) = (((done ++ u).length : Nat) : Int)) := by
  subst h
  have e : (mk (done ++ u ++ rest)).size = done.length + u.length + rest.length := by rw [mk_size]; simp; omega
  refine ⟨by rw [e, mk_size]; omega, ?_, ?_, by rw [mk_size]; simp⟩
  · rw [mk_extract, mk_toL, mk_toL, mk_size, List.append_assoc]
    rw [show done.length + u.length = (done ++ u).length by simp, ← List.append_assoc, List.take_left' rfl, List.drop_left' rfl]
  · rw [e, mk_size]
    have : ((done.length + u.length + rest.length : Nat) : Int) - (done.length : Int) - (u.length : Int) = (rest.length : Int) := by omega
    rw [this]; simp

/-- What the loop keeps. -/
def OnceRel (l : List UInt8) (len g : Nat) (w : World) (at_ i : Value) (wr : World) : Prop :=
  ∃ (k : Nat) (done rest : List UInt8), k ≤ len ∧ i = .int .i64 (k : Int) ∧ at_ = .int .i64 ((done.length : Nat) : Int) ∧ done ++ rest = l ∧ RD wr g rest 1 ∧ Below g w wr

set_option maxRecDepth 100000 in
set_option maxHeartbeats 4000000 in
theorem once_any (l : List UInt8) (A : Option Addr) (len cap : Nat) (what : Nat → Nat) (N : Nat → Int) (w : World) (hl : l.length ≤ 3000) (_hlen : len ≤ 9223372036854775807)
    (hwhat : ∀ i, what i < 256) (hN : ∀ i, -9223372036854775808 ≤ N i ∧ N i ≤ 9223372036854775807)
    (hc : ∀ i, i < len → ∃ b off, A = some ⟨b, off, none⟩ ∧ b < w.heap.size ∧ w.cell? ⟨b, off + i * 2, none⟩ = some (.int .u8 (what i : Int)) ∧ w.cell? ⟨b, off + i * 2 + 1, none⟩ = some (.int .i64 (N i))) :
    Calls Try.prog 7 #[.string (mk l), .slice A len cap] w fun e w' => e = .returned (.bool true) ∧ Below w.heap.size w w' := by
  have hs : ((mk l).size : Int) ≤ 3000 := by rw [mk_size]; omega
  have HC := Lib.hid hc
  have HW := Lib.hid hwhat
  have HN := Lib.hid hN
  have HSZ := Lib.hid (mk_size l)
  clear hc hwhat hN
  go_enter Try.func7, Try.ntmps7
  go_wp2_with fail
  refine (open_any (mk l) _).mono ?_
  rintro e w1 ⟨rfl, h1, b1⟩
  rw [mk_toList] at h1
  go_wp2_with fail
  go_loopw [6, 7] (fun at_ i wr => OnceRel l len w.heap.size w at_ i wr) (fun _ i _ => len - (intOf i).toNat)
  case atStart => exact ⟨0, [], l, Nat.zero_le _, rfl, rfl, rfl, h1, b1⟩
  case round =>
    obtain ⟨k, done, rest, hk, rfl, rfl, hdr, hrd, hbel⟩ := hrel
    have hbs := hbel.size
    have HD := Lib.hid hdr
    have hll : done.length + rest.length = l.length := by have := congrArg List.length hdr; rw [List.length_append] at this; exact this
    have hdl : done.length ≤ 3000 := by omega
    have hrl : rest.length ≤ 3000 := by omega
    have HLL := Lib.hid hll
    clear hdr hll
    have hk0 : (0 : Int) ≤ (k : Int) := by omega
    by_cases hlt : k < len
    · have hkl : (k : Int) < (len : Int) := by omega
      by_cases hk1 : k < 100
      · have hk1I : (k : Int) < 100 := by omega
        obtain ⟨b, off, rfl, hbw, hcW0, hcN0⟩ := HC.out k hlt
        have hcW : wr.cell? ⟨b, off + k * 2, none⟩ = some (.int .u8 (what k : Int)) := (hbel.cell (p := ⟨b, off + k * 2, none⟩) hbw).trans hcW0
        have hcN : wr.cell? ⟨b, off + k * 2 + 1, none⟩ = some (.int .i64 (N k)) := (hbel.cell (p := ⟨b, off + k * 2 + 1, none⟩) hbw).trans hcN0
        clear hcW0 hcN0
        have hq := HW.out k
        have hn := HN.out k
        generalize what k = q at *
        generalize N k = n at *
        obtain ⟨hn1, hn2⟩ := hn
        have h3 : q % 3 = 0 ∨ q % 3 = 1 ∨ q % 3 = 2 := by omega
        rcases h3 with h3 | h3 | h3
        · have t0 : (((q : Int) % 3) == 0) = true := beq_iff_eq.2 (by omega)
          clear h3
          go_wp2_with fail
          refine (numR_any w.heap.size rest 1 _ hrd (.inl rfl) (by omega)).mono ?_
          rintro e w2 ⟨rfl, h2, g2⟩
          have hwell := well_num rest
          have hlt64 := rNum_lt rest
          generalize (rNum rest 1).2.1 = rest' at *
          generalize (rNum rest 1).2.2 = st at *
          generalize (rNum rest 1).1 = x at *
          have hb2 : Below w.heap.size w w2 := below_grown hbel g2 hbs (Nat.le_refl _)
          have hz2 := hb2.size
          have hg2 := h2.lt
          go_wp2_with fail
          refine (num_single _ x w2 rfl hlt64).mono ?_
          rintro e w3 ⟨rfl, hb3⟩
          have hb3' : Below w.heap.size w w3 := hb2.trans (hb3.mono hz2)
          have h3' := h2.below hb3 hg2
          generalize numB x = u at *
          have hz3 := hb3'.size
          rcases hwell with ⟨rfl, hu⟩ | ⟨rfl, rfl⟩
          · have hul : u.length + rest'.length = rest.length := by have := congrArg List.length hu; rw [List.length_append] at this; exact this
            have HL2 : Hid ((done ++ u) ++ rest' = l) := Lib.hid (by rw [List.append_assoc, hu]; exact HD.out)
            obtain ⟨f1, f2, f3, f4⟩ := once_facts l done u rest' HL2.out
            have F4 := Lib.hid f4
            have hus : (mk u).size ≤ 3000 := by rw [mk_size]; omega
            clear hul hu f4
            go_wp2_with (first
              | (go_at_call 25; refine (bad_any w.heap.size rest' 1 _ h3' (.inl rfl)).mono ?_; rintro e w4 ⟨rfl, rfl⟩)
              | (go_at_call 24; refine (leftR_good w.heap.size rest' _ h3').mono ?_; rintro e w4 ⟨rfl, rfl⟩))
            go_roundw
            case rel => exact ⟨k + 1, done ++ u, rest', by omega, by go_num, by rw [F4.out], HL2.out, h3', hb3'⟩
            case measure => simp [intOf]; omega
          · go_wp2_with (first
              | (go_at_call 25; refine (bad_any w.heap.size [] 2 _ h3' (.inr rfl)).mono ?_; rintro e w4 ⟨rfl, rfl⟩)
              | (go_at_call 24; refine (leftR_bad w.heap.size [] _ h3').mono ?_; rintro e w4 ⟨rfl, rfl⟩)
              | (go_at_call 10; refine (head_any _).mono ?_; rintro e w4 ⟨rfl, b4⟩))
            go_ret
            exact ⟨rfl, hb3'.trans (b4.mono hz3)⟩
        · have t0 : (((q : Int) % 3) == 0) = false := beq_eq_false_iff_ne.2 (by omega)
          have t1 : (((q : Int) % 3) == 1) = true := beq_iff_eq.2 (by omega)
          clear h3
          go_wp2_with fail
          refine (textR_any w.heap.size rest 1 n _ hrd (.inl rfl) (by omega) hn2).mono ?_
          rintro e w2 ⟨rfl, h2, g2⟩
          have hwell := well_text rest n
          have hxl := rText_len rest n
          generalize (rText rest 1 n).2.1 = rest' at *
          generalize (rText rest 1 n).2.2 = st at *
          generalize (rText rest 1 n).1 = x at *
          have hb2 : Below w.heap.size w w2 := below_grown hbel g2 hbs (Nat.le_refl _)
          have hz2 := hb2.size
          have hg2 := h2.lt
          go_wp2_with fail
          refine (text_any (mk x) w2 (by rw [mk_size]; omega)).mono ?_
          rintro e w3 ⟨rfl, hb3⟩
          rw [mk_toList]
          have hb3' : Below w.heap.size w w3 := hb2.trans (hb3.mono hz2)
          have h3' := h2.below hb3 hg2
          generalize textB x = u at *
          have hz3 := hb3'.size
          rcases hwell with ⟨rfl, hu⟩ | ⟨rfl, rfl⟩
          · have hul : u.length + rest'.length = rest.length := by have := congrArg List.length hu; rw [List.length_append] at this; exact this
            have HL2 : Hid ((done ++ u) ++ rest' = l) := Lib.hid (by rw [List.append_assoc, hu]; exact HD.out)
            obtain ⟨f1, f2, f3, f4⟩ := once_facts l done u rest' HL2.out
            have F4 := Lib.hid f4
            have hus : (mk u).size ≤ 3000 := by rw [mk_size]; omega
            clear hul hu f4
            go_wp2_with (first
              | (go_at_call 25; refine (bad_any w.heap.size rest' 1 _ h3' (.inl rfl)).mono ?_; rintro e w4 ⟨rfl, rfl⟩)
              | (go_at_call 24; refine (leftR_good w.heap.size rest' _ h3').mono ?_; rintro e w4 ⟨rfl, rfl⟩))
            go_roundw
            case rel => exact ⟨k + 1, done ++ u, rest', by omega, by go_num, by rw [F4.out], HL2.out, h3', hb3'⟩
            case measure => simp [intOf]; omega
          · go_wp2_with (first
              | (go_at_call 25; refine (bad_any w.heap.size [] 2 _ h3' (.inr rfl)).mono ?_; rintro e w4 ⟨rfl, rfl⟩)
              | (go_at_call 24; refine (leftR_bad w.heap.size [] _ h3').mono ?_; rintro e w4 ⟨rfl, rfl⟩)
              | (go_at_call 10; refine (head_any _).mono ?_; rintro e w4 ⟨rfl, b4⟩))
            go_ret
            exact ⟨rfl, hb3'.trans (b4.mono hz3)⟩
        · have t0 : (((q : Int) % 3) == 0) = false := beq_eq_false_iff_ne.2 (by omega)
          have t1 : (((q : Int) % 3) == 1) = false := beq_eq_false_iff_ne.2 (by omega)
          have t2 : (((q : Int) % 3) == 2) = true := beq_iff_eq.2 (by omega)
          clear h3
          go_wp2_with fail
          refine (takeR_any w.heap.size rest 1 n _ hrd (.inl rfl) (by omega)).mono ?_
          rintro e w3 ⟨rfl, h3', g2⟩
          have hwell := well_take rest n
          generalize (rTake rest 1 n).2.1 = rest' at *
          generalize (rTake rest 1 n).2.2 = st at *
          generalize (rTake rest 1 n).1 = u at *
          have hb3' : Below w.heap.size w w3 := below_grown hbel g2 hbs (Nat.le_refl _)
          have hz3 := hb3'.size
          rcases hwell with ⟨rfl, hu⟩ | ⟨rfl, rfl⟩
          · have hul : u.length + rest'.length = rest.length := by have := congrArg List.length hu; rw [List.length_append] at this; exact this
            have HL2 : Hid ((done ++ u) ++ rest' = l) := Lib.hid (by rw [List.append_assoc, hu]; exact HD.out)
            obtain ⟨f1, f2, f3, f4⟩ := once_facts l done u rest' HL2.out
            have F4 := Lib.hid f4
            have hus : (mk u).size ≤ 3000 := by rw [mk_size]; omega
            clear hul hu f4
            go_wp2_with (first
              | (go_at_call 25; refine (bad_any w.heap.size rest' 1 _ h3' (.inl rfl)).mono ?_; rintro e w4 ⟨rfl, rfl⟩)
              | (go_at_call 24; refine (leftR_good w.heap.size rest' _ h3').mono ?_; rintro e w4 ⟨rfl, rfl⟩))
            go_roundw
            case rel => exact ⟨k + 1, done ++ u, rest', by omega, by go_num, by rw [F4.out], HL2.out, h3', hb3'⟩
            case measure => simp [intOf]; omega
          · go_wp2_with (first
              | (go_at_call 25; refine (bad_any w.heap.size [] 2 _ h3' (.inr rfl)).mono ?_; rintro e w4 ⟨rfl, rfl⟩)
              | (go_at_call 24; refine (leftR_bad w.heap.size [] _ h3').mono ?_; rintro e w4 ⟨rfl, rfl⟩)
              | (go_at_call 10; refine (head_any _).mono ?_; rintro e w4 ⟨rfl, b4⟩))
            go_ret
            exact ⟨rfl, hb3'.trans (b4.mono hz3)⟩
      · have hk1I : (100 : Int) ≤ (k : Int) := by omega
        go_wp2_with (go_at_call 10; refine (head_any _).mono ?_; rintro e w4 ⟨rfl, b4⟩)
        go_ret
        exact ⟨rfl, hbel.trans (b4.mono hbs)⟩
    · have hkl : (len : Int) ≤ (k : Int) := by omega
      go_wp2_with (go_at_call 10; refine (head_any _).mono ?_; rintro e w4 ⟨rfl, b4⟩)
      go_ret
      exact ⟨rfl, hbel.trans (b4.mono hbs)⟩
end Go.Proofs.Ytkabibbmaekkfaa
