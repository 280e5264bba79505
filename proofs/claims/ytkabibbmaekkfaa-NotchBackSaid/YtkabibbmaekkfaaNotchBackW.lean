/-
  LAYER 1: the walk of NotchBack: what was put is read as it was.
-/
import Derived.Test.YtkabibbmaekkfaaNotchOnceW
import Derived.Deep.RegionHeld3
namespace Go.Proofs.Ytkabibbmaekkfaa
open Go.RowKit

/-- A number, or a text. -/
structure It where
  tx : Bool
  n : Nat
  s : List UInt8
def itB (x : It) : List UInt8 := if x.tx = true then textB x.s else numB x.n
def catB (F : Nat → It) : Nat → List UInt8
  | 0 => []
  | k + 1 => catB F k ++ itB (F k)

theorem itB_length (x : It) (h : x.s.length ≤ 3000) : (itB x).length ≤ 3009 := by
  unfold itB
  have h1 := wid_le x.s.length
  have h2 := wid_le x.n
  split
  · simp [textB, numB_length]; omega
  · simp [numB_length]; omega
theorem catB_length (F : Nat → It) (k : Nat) (h : ∀ i, i < k → (F i).s.length ≤ 3000) : (catB F k).length ≤ 3009 * k := by
  induction k with
  | zero => simp [catB]
  | succ k ih =>
    have h1 := ih (fun i hi => h i (by omega))
    have h2 := itB_length (F k) (h k (by omega))
    simp only [catB, List.length_append]; omega
theorem catB_more (F : Nat → It) (k n : Nat) (h : k ≤ n) : ∃ r, catB F n = catB F k ++ r := by
  induction n with
  | zero => obtain rfl : k = 0 := by omega
            exact ⟨[], by simp⟩
  | succ n ih =>
    by_cases e : k = n + 1
    · subst e; exact ⟨[], by simp⟩
    · obtain ⟨r, hr⟩ := ih (by omega)
      exact ⟨r ++ itB (F n), by simp only [catB, hr, List.append_assoc]⟩
theorem catB_rest {F : Nat → It} {k n : Nat} {rest : List UInt8} (h : k < n) (he : catB F k ++ rest = catB F n) : ∃ r, rest = itB (F k) ++ r ∧ catB F (k + 1) ++ r = catB F n := by
  obtain ⟨r, hr⟩ := catB_more F (k + 1) n h
  refine ⟨r, ?_, hr.symm⟩
  rw [hr] at he
  simp only [catB, List.append_assoc] at he
  exact List.append_cancel_left he

theorem text_back (g : Nat) (s r : List UInt8) (w : World) (h : RD w g (textB s ++ r) 1) (hl : (textB s ++ r).length ≤ 1099511627776) (hs : s.length ≤ 3000) :
    Calls Try.prog 20 #[.pointer (some ⟨g, 0, none⟩), .int .i64 (((mk s).size : Nat) : Int)] w fun e w' => e = .returned (.string (mk s)) ∧ RD w' g r 1 ∧ w.grownBy w' (some g) := by
  have e : rText (textB s ++ r) 1 (((mk s).size : Nat) : Int) = (s, r, 1) := by
    have hk := ok_numB (n := s.length) (by omega) (s ++ r)
    have et : textB s ++ r = numB s.length ++ (s ++ r) := by simp [textB]
    rw [et, mk_size]
    unfold rText
    rw [if_pos rfl, if_pos ⟨hk.1, by omega, by rw [hk.2.1]; omega⟩, hk.2.1, hk.2.2, rTake_ok, if_pos (by simp)]
    simp
  refine (textR_any g _ 1 _ w h (.inl rfl) hl (by rw [mk_size]; omega)).mono fun e' w' ⟨he, h1, h2⟩ => ?_
  rw [e] at he h1
  exact ⟨he, h1, h2⟩

theorem num_back (g n : Nat) (r : List UInt8) (w : World) (h : RD w g (numB n ++ r) 1) (hl : (numB n ++ r).length ≤ 1099511627776) (hn : n < 2 ^ 64) :
    Calls Try.prog 18 #[.pointer (some ⟨g, 0, none⟩)] w fun e w' => e = .returned (.int .u64 (n : Int)) ∧ RD w' g r 1 ∧ w.grownBy w' (some g) := by
  have e : rNum (numB n ++ r) 1 = (n, r, 1) := by
    have hk := ok_numB hn r
    unfold rNum
    rw [if_pos rfl, if_pos hk.1, hk.2.1, hk.2.2]
  refine (numR_any g _ 1 w h (.inl rfl) hl).mono fun e' w' ⟨he, h1, h2⟩ => ?_
  rw [e] at he h1
  exact ⟨he, h1, h2⟩

set_option maxHeartbeats 1000000 in
theorem back_long (A : Option Addr) (len cap : Nat) (w : World) (h : 50 < len) :
    Calls Try.prog 5 #[.slice A len cap] w fun e w' => e = .returned (.bool true) ∧ Below w.heap.size w w' := by
  have h' : (50 : Int) < (len : Int) := by omega
  go_enter Try.func5, Try.ntmps5
  go_wp2_with (go_at_call 10; refine (head_any _).mono ?_; rintro e w1 ⟨rfl, b1⟩)
  go_ret
  exact ⟨rfl, b1⟩

/-- Item i of the argument, in its three cells. -/
def ItemAt (w : World) (B : Nat) (A : Option Addr) (x : It) (i : Nat) : Prop := ∃ b off, A = some ⟨b, off, none⟩ ∧ b < B ∧ w.cell? ⟨b, off + i * 3, none⟩ = some (.bool x.tx) ∧
  w.cell? ⟨b, off + i * 3 + 1, none⟩ = some (.int .u64 (x.n : Int)) ∧ w.cell? ⟨b, off + i * 3 + 2, none⟩ = some (.string (mk x.s))
theorem ItemAt.below {w w' : World} {B : Nat} {A : Option Addr} {x : It} {i : Nat} (h : ItemAt w B A x i) (hb : Below B w w') : ItemAt w' B A x i := by
  obtain ⟨b, off, e, hlt, h0, h1, h2⟩ := h
  exact ⟨b, off, e, hlt, (hb.cell (p := ⟨b, _, none⟩) hlt).trans h0, (hb.cell (p := ⟨b, _, none⟩) hlt).trans h1, (hb.cell (p := ⟨b, _, none⟩) hlt).trans h2⟩

def PutRel (F : Nat → It) (len B : Nat) (w : World) (s i : Value) (wr : World) : Prop :=
  ∃ k : Nat, k ≤ len ∧ i = .int .i64 (k : Int) ∧ s = .string (mk (catB F k)) ∧ (∀ j, j < k → (F j).s.length ≤ 3000) ∧ Below B w wr
def GetRel (F : Nat → It) (len B g : Nat) (w : World) (i : Value) (wr : World) : Prop :=
  ∃ (k : Nat) (rest : List UInt8), k ≤ len ∧ i = .int .i64 (k : Int) ∧ catB F k ++ rest = catB F len ∧ RD wr g rest 1 ∧ Below B w wr

set_option maxRecDepth 100000 in
set_option maxHeartbeats 4000000 in
theorem back_any (A : Option Addr) (len cap : Nat) (F : Nat → It) (w : World) (hlen : len ≤ 50) (hF : ∀ i, (F i).n < 2 ^ 64) (hc : ∀ i, i < len → ItemAt w w.heap.size A (F i) i) :
    Calls Try.prog 5 #[.slice A len cap] w fun e w' => e = .returned (.bool true) ∧ Below w.heap.size w w' := by
  have HC := Lib.hid hc
  have HF := Lib.hid hF
  clear hc hF
  have hlI : (len : Int) ≤ 50 := by omega
  go_enter Try.func5, Try.ntmps5
  go_wp2_with fail
  go_loopw [3, 4] (fun s i wr => PutRel F len w.heap.size w s i wr) (fun _ i _ => len - (intOf i).toNat)
  case atStart => exact ⟨0, Nat.zero_le _, rfl, rfl, fun j hj => absurd hj (by omega), Below.refl _ _⟩
  case round =>
    obtain ⟨k, hk, rfl, rfl, hsm, hbel⟩ := hrel
    have hbs := hbel.size
    have HSM := Lib.hid hsm
    have hcl := catB_length F k hsm
    have hcz : (mk (catB F k)).size ≤ 150450 := by rw [mk_size]; omega
    clear hsm
    have hk0 : (0 : Int) ≤ (k : Int) := by omega
    by_cases hlt : k < len
    · have hkl : (k : Int) < (len : Int) := by omega
      obtain ⟨b, off, rfl, hbw, c0, c1, c2⟩ := (HC.out k hlt).below hbel
      have hn64 := HF.out k
      have hcat : catB F (k + 1) = catB F k ++ itB (F k) := rfl
      obtain ⟨x, hx⟩ : ∃ x, x = F k := ⟨_, rfl⟩
      rw [← hx] at c0 c1 c2 hn64 hcat
      have HX := Lib.hid hx
      clear hx
      obtain ⟨tx, n, s⟩ := x
      simp only at c0 c1 c2 hn64
      by_cases hs3 : 3000 < s.length
      · have hs3I : (3000 : Int) < (((mk s).size : Nat) : Int) := by rw [mk_size]; omega
        clear hcat
        go_wp2_with (go_at_call 10; refine (head_any _).mono ?_; rintro e w1 ⟨rfl, b1⟩)
        go_ret
        exact ⟨rfl, hbel.trans (b1.mono hbs)⟩
      · have hs3I : (((mk s).size : Nat) : Int) ≤ 3000 := by rw [mk_size]; omega
        have hs3N : (mk s).size ≤ 140737488351232 := by omega
        have hnext : ∀ j, j < k + 1 → (F j).s.length ≤ 3000 := by
          intro j hj
          by_cases e : j = k
          · subst e; rw [← HX.out]; show s.length ≤ 3000; omega
          · exact HSM.out j (by omega)
        have HNX := Lib.hid hnext
        clear hnext
        cases tx with
        | true =>
          have hcat' : catB F (k + 1) = catB F k ++ textB s := hcat
          have HA := Lib.hid (show mk (catB F k) ++ mk (textB s) = mk (catB F (k + 1)) by rw [mk_append, hcat'])
          have hadd : (mk (catB F k)).size + (mk (textB s)).size ≤ 9223372036854775807 := by
            have h1 := wid_le s.length
            rw [mk_size (textB s)]; simp only [textB, List.length_append, numB_length]; omega
          clear hcat hcat'
          go_wp2_with fail
          refine (text_any (mk s) _ hs3N).mono ?_
          rintro e w1 ⟨rfl, hb1⟩
          rw [mk_toList]
          go_wp2_with fail
          go_roundw
          case rel => exact ⟨k + 1, by omega, by go_num, by rw [← HA.out], HNX.out, hbel.trans (hb1.mono hbs)⟩
          case measure => simp [intOf]; omega
        | false =>
          have hcat' : catB F (k + 1) = catB F k ++ numB n := hcat
          have HA := Lib.hid (show mk (catB F k) ++ mk (numB n) = mk (catB F (k + 1)) by rw [mk_append, hcat'])
          have hadd : (mk (catB F k)).size + (mk (numB n)).size ≤ 9223372036854775807 := by
            have h1 := wid_le n
            rw [mk_size (numB n), numB_length]; omega
          clear hcat hcat'
          go_wp2_with fail
          refine (num_single _ n wr rfl hn64).mono ?_
          rintro e w1 ⟨rfl, hb1⟩
          go_wp2_with fail
          go_roundw
          case rel => exact ⟨k + 1, by omega, by go_num, by rw [← HA.out], HNX.out, hbel.trans (hb1.mono hbs)⟩
          case measure => simp [intOf]; omega
    · obtain rfl : k = len := by omega
      have hcl2 : (catB F k).length ≤ 150450 := by omega
      go_wp2_with fail
      refine (open_any (mk (catB F k)) _).mono ?_
      rintro e w2 ⟨rfl, h2, b2⟩
      rw [mk_toList] at h2
      have hb2 : Below w.heap.size w w2 := hbel.trans (b2.mono hbs)
      obtain ⟨g, hg⟩ : ∃ g, g = wr.heap.size := ⟨_, rfl⟩
      have hgw : w.heap.size ≤ g := by omega
      rw [← hg] at h2
      rw [← hg]
      clear b2 hbel hbs hg
      go_wp2_with fail
      go_loopw [6] (fun i wr => GetRel F k w.heap.size g w i wr) (fun i _ => k - (intOf i).toNat)
      case atStart => exact ⟨0, catB F k, Nat.zero_le _, rfl, rfl, h2, hb2⟩
      case round =>
        obtain ⟨j, rest, hj, rfl, hre, hrd, hbel⟩ := hrel
        have hbs := hbel.size
        have hrl : rest.length ≤ 150450 := by have := congrArg List.length hre; rw [List.length_append] at this; omega
        have hj0 : (0 : Int) ≤ (j : Int) := by omega
        by_cases hlt : j < k
        · have hkl : (j : Int) < (k : Int) := by omega
          obtain ⟨r, hr1, hr2⟩ := catB_rest hlt hre
          have HR2 := Lib.hid hr2
          obtain ⟨b, off, rfl, hbw, c0, c1, c2⟩ := (HC.out j hlt).below hbel
          have hbg : b ≠ g := by omega
          have hn64 := HF.out j
          have hs3 := HSM.out j hlt
          generalize F j = x at *
          obtain ⟨tx, n, s⟩ := x
          simp only at c0 c1 c2 hn64 hs3
          clear hr2 hre
          have hs3I : (((mk s).size : Nat) : Int) ≤ 3000 := by rw [mk_size]; omega
          cases tx with
          | true =>
            have hr1' : rest = textB s ++ r := hr1
            clear hr1
            subst hr1'
            have HT := Lib.hid (fun w hh => text_back g s r w hh (by omega) hs3)
            go_wp2_with fail
            go_region_held3 (fun w' => w'.cell? ⟨b, off + j * 3 + 2, none⟩ = some (.string (mk s))) (first | go_keep | exact g3.cell (a := ⟨b, off + j * 3 + 2, none⟩) c2 (by simp; exact hbg))
              (first | (go_at_call 20; refine (HT.out wr.drew hrd).mono ?_; rintro e w3 ⟨rfl, h3, g3⟩))
            go_wp2_with fail
            go_roundw
            case rel => exact ⟨j + 1, r, by omega, by go_num, HR2.out, h3, below_grown (b := wr.drew) hbel.drew g3 hbs hgw⟩
            case measure => simp [intOf]; omega
          | false =>
            have hr1' : rest = numB n ++ r := hr1
            clear hr1
            subst hr1'
            have HT := Lib.hid (fun w hh => num_back g n r w hh (by omega) hn64)
            go_wp2_with fail
            go_region_held3 (fun w' => w'.cell? ⟨b, off + j * 3 + 1, none⟩ = some (.int .u64 (n : Int))) (first | go_keep | exact g3.cell (a := ⟨b, off + j * 3 + 1, none⟩) c1 (by simp; exact hbg))
              (first | (go_at_call 18; refine (HT.out wr.drew hrd).mono ?_; rintro e w3 ⟨rfl, h3, g3⟩))
            go_wp2_with fail
            go_roundw
            case rel => exact ⟨j + 1, r, by omega, by go_num, HR2.out, h3, below_grown (b := wr.drew) hbel.drew g3 hbs hgw⟩
            case measure => simp [intOf]; omega
        · obtain rfl : j = k := by omega
          have hr0 : rest = [] := by
            have := congrArg List.length hre
            rw [List.length_append] at this
            exact List.eq_nil_of_length_eq_zero (by omega)
          clear hre
          subst hr0
          go_wp2_with (first
            | (go_at_call 25; refine (bad_any g [] 1 _ hrd (.inl rfl)).mono ?_; rintro e w4 ⟨rfl, rfl⟩)
            | (go_at_call 24; refine (leftR_good g [] _ hrd).mono ?_; rintro e w4 ⟨rfl, rfl⟩)
            | (go_at_call 10; refine (head_any _).mono ?_; rintro e w4 ⟨rfl, b4⟩))
          go_ret
          exact ⟨rfl, hbel.trans (b4.mono hbs)⟩
end Go.Proofs.Ytkabibbmaekkfaa
