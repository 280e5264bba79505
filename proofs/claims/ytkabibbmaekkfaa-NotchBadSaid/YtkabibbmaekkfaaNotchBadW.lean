/-
  LAYER 1: the walk of NotchBad: a reader that is nil, or bad, tells nothing, whatever it is asked.
-/
import Derived.Test.YtkabibbmaekkfaaNotchHead
import Derived.Deep.QuietTactic
import Derived.BigQuiet
import Derived.Deep.RegionWith
namespace Go.Proofs.Ytkabibbmaekkfaa
open Go.RowKit

/-- A nil reader, or one that is bad. -/
def Dead (w : World) (v : Value) : Prop := v = .pointer none ∨ ∃ (g : Nat) (l : List UInt8), v = .pointer (some ⟨g, 0, none⟩) ∧ RD w g l 2

set_option maxHeartbeats 400000 in
theorem dead_readable (v : Value) (w : World) (h : Dead w v) : Calls Try.prog 28 #[v] w fun e w' => e = .returned (.bool false) ∧ w = w' := by
  rcases h with rfl | ⟨g, l, rfl, h⟩
  · exact readable_nil w
  · exact readable_any g l 2 w h (.inr rfl)
theorem dead_bad (v : Value) (w : World) (h : Dead w v) : Calls Try.prog 25 #[v] w fun e w' => e = .returned (.bool true) ∧ w' = w := by
  rcases h with rfl | ⟨g, l, rfl, h⟩
  · exact (bad_nil w).mono fun _ _ ⟨a, b⟩ => ⟨a, b.symm⟩
  · exact (bad_any g l 2 w h (.inr rfl)).mono fun _ _ ⟨a, b⟩ => ⟨a, b.symm⟩
theorem dead_left (v : Value) (w : World) (h : Dead w v) : Calls Try.prog 24 #[v] w fun e w' => e = .returned (.int .i64 0) ∧ w' = w := by
  rcases h with rfl | ⟨g, l, rfl, h⟩
  · exact (leftR_nil w).mono fun _ _ ⟨a, b⟩ => ⟨a, b.symm⟩
  · exact (leftR_bad g l w h).mono fun _ _ ⟨a, b⟩ => ⟨a, b.symm⟩
set_option maxHeartbeats 400000 in
theorem dead_num (v : Value) (w : World) (h : Dead w v) : Calls Try.prog 18 #[v] w fun e w' => e = .returned (.int .u64 0) ∧ w' = w := by
  go_enter Try.func18, Try.ntmps18
  go_wp2_with (go_at_call 28; refine (dead_readable v _ h).mono ?_; rintro e w' ⟨rfl, rfl⟩)
  go_ret
  exact ⟨rfl, rfl⟩
set_option maxHeartbeats 400000 in
theorem dead_text (v : Value) (n : Int) (w : World) (h : Dead w v) : Calls Try.prog 20 #[v, .int .i64 n] w fun e w' => e = .returned (.string ⟨#[]⟩) ∧ w' = w := by
  go_enter Try.func20, Try.ntmps20
  go_wp2_with (go_at_call 28; refine (dead_readable v _ h).mono ?_; rintro e w' ⟨rfl, rfl⟩)
  go_ret
  exact ⟨rfl, rfl⟩
set_option maxHeartbeats 400000 in
theorem dead_take (v : Value) (n : Int) (w : World) (h : Dead w v) : Calls Try.prog 22 #[v, .int .i64 n] w fun e w' => e = .returned (.string ⟨#[]⟩) ∧ w' = w := by
  go_enter Try.func22, Try.ntmps22
  go_wp2_with (go_at_call 28; refine (dead_readable v _ h).mono ?_; rintro e w' ⟨rfl, rfl⟩)
  go_ret
  exact ⟨rfl, rfl⟩

/-- Nothing but draws lies between. -/
def Still (w w' : World) : Prop := w'.heap = w.heap ∧ w'.os = w.os ∧ w'.tape = w.tape ∧ w'.output = w.output
theorem Still.refl (w : World) : Still w w := ⟨rfl, rfl, rfl, rfl⟩
theorem Still.drewN {w w' : World} (h : Still w w') (n : Nat) : Still w (w'.drewN n) := h
theorem Still.cell {w w' : World} (h : Still w w') (a : Addr) : w'.cell? a = w.cell? a := World.cell?_of_block (by rw [h.1])
theorem Still.below {B : Nat} {a w w' : World} (h : Below B a w) (k : Still w w') : Below B a w' :=
  h.trans ⟨k.2.1, k.2.2.1, k.2.2.2, by rw [k.1]; exact Nat.le_refl _, fun i _ => by rw [k.1]⟩
theorem Still.dead {w w' : World} {v : Value} (h : Still w w') (d : Dead w v) : Dead w' v := by
  rcases d with rfl | ⟨g, l, rfl, d⟩
  · exact .inl rfl
  · exact .inr ⟨g, l, rfl, by unfold RD at d ⊢; rw [h.1]; exact d⟩

theorem quiet_from {P : Program} {f : FuncId} {args : Array Value} {w : World} {n : Nat} {v : Value} (h : ∀ m, Calls P f args (w.drewN m) fun e w' => e = .returned v ∧ w' = w.drewN m) :
    Calls P f args (w.drewN n) fun e w'' => e = .returned v ∧ ∃ m, w'' = w.drewN m := (h n).mono fun _ _ ⟨a, b⟩ => ⟨a, n, b⟩

set_option maxHeartbeats 1000000 in
theorem nbad_long (s : ByteArray) (v : Value) (w : World) (h : 3000 < s.size) :
    Calls Try.prog 8 #[.string s, v] w fun e w' => e = .returned (.bool true) ∧ Below w.heap.size w w' := by
  have h' : (3000 : Int) < (s.size : Int) := by omega
  go_enter Try.func8, Try.ntmps8
  go_wp2_with (go_at_call 10; refine (head_any _).mono ?_; rintro e w1 ⟨rfl, b1⟩)
  go_ret
  exact ⟨rfl, b1⟩

set_option maxHeartbeats 2000000 in
theorem nbad_any (l : List UInt8) (A : Option Addr) (len cap : Nat) (N : Nat → Int) (w : World) (hl : l.length ≤ 3000) (hlen : len ≤ 9223372036854775807)
    (hc : ∀ i, i < len → ∃ b off, A = some ⟨b, off, none⟩ ∧ b < w.heap.size ∧ w.cell? ⟨b, off + i * 2 + 1, none⟩ = some (.int .i64 (N i))) :
    Calls Try.prog 8 #[.string (mk l), .slice A len cap] w fun e w' => e = .returned (.bool true) ∧ Below w.heap.size w w' := by
  have hs : ((mk l).size : Int) ≤ 3000 := by rw [mk_size]; omega
  have HC := Lib.hid hc
  have HT := Lib.hid (show rTake l 1 (-1) = ([], [], 2) by simp [rTake])
  clear hc
  go_enter Try.func8, Try.ntmps8
  go_wp2_with fail
  refine (open_any (mk l) _).mono ?_
  rintro e w1 ⟨rfl, h1, b1⟩
  rw [mk_toList] at h1
  go_wp2_with fail
  refine (takeR_any w.heap.size l 1 (-1) _ h1 (.inl rfl) (by omega)).mono ?_
  rintro e w2 ⟨rfl, h2, g2⟩
  rw [HT.out] at h2
  rw [HT.out]
  have hb2 : Below w.heap.size w w2 := below_grown b1 g2 b1.size (Nat.le_refl _)
  rw [show mk [] = ⟨#[]⟩ from rfl]
  clear b1 h1 g2 HT
  go_wp2_with fail
  obtain ⟨w3, hw3⟩ : ∃ w3, w3 = w2.alloc (.cells #[.pointer none, .pointer (some ⟨w.heap.size, 0, none⟩)] 32) := ⟨_, rfl⟩
  obtain ⟨ab, hab⟩ : ∃ ab, ab = w2.heap.size := ⟨_, rfl⟩
  have c0 : w3.cell? ⟨ab, 0, none⟩ = some (.pointer none) := by rw [hw3, hab, World.cell?_alloc_at _ _ _ _ rfl]; rfl
  have c1 : w3.cell? ⟨ab, 1, none⟩ = some (.pointer (some ⟨w.heap.size, 0, none⟩)) := by rw [hw3, hab, World.cell?_alloc_at _ _ _ _ rfl]; rfl
  have hd1 : Dead w3 (.pointer (some ⟨w.heap.size, 0, none⟩)) := .inr ⟨w.heap.size, [], rfl, by rw [hw3]; exact (Below.heap_alloc w2 _ _ h2.lt).trans h2⟩
  have hd0 : Dead w3 (.pointer none) := .inl rfl
  have hb3 : Below w.heap.size w w3 := by rw [hw3]; exact hb2.alloc hb2.size _
  have hpick : ∀ k, k < 2 → ∃ v, w3.cell? ⟨ab, k, none⟩ = some v ∧ Dead w3 v := by
    intro k hk
    have hk2 : k = 0 ∨ k = 1 := by omega
    rcases hk2 with rfl | rfl
    · exact ⟨_, c0, hd0⟩
    · exact ⟨_, c1, hd1⟩
  have HP := Lib.hid hpick
  have HD := Lib.hid hd1
  rw [← hw3, ← hab]
  clear hw3 hab c0 c1 hd0 hd1 hpick h2 hb2
  go_loopw [8] (fun k wr => ∃ kk : Nat, kk ≤ 2 ∧ k = .int .i64 (kk : Int) ∧ Still w3 wr) (fun k _ => 2 - (intOf k).toNat)
  case atStart => exact ⟨0, by omega, rfl, Still.refl _⟩
  case round =>
    obtain ⟨k, hk, rfl, hst⟩ := hrel
    by_cases hlt : k < 2
    · obtain ⟨v, hcv, hdv⟩ := HP.out k hlt
      have hk0 : (0 : Int) ≤ (k : Int) := by omega
      have hkl : (k : Int) < 2 := by omega
      go_wp2_with fail
      obtain ⟨wo, rfl⟩ : ∃ wo : World, wo = wr := ⟨_, rfl⟩
      go_loopw [9] (fun i wr => ∃ ii : Nat, ii ≤ len ∧ i = .int .i64 (ii : Int) ∧ Still w3 wr) (fun i _ => len - (intOf i).toNat)
      case atStart => exact ⟨0, by omega, rfl, hst⟩
      case round =>
        obtain ⟨i, hi, rfl, hsx⟩ := hrel
        by_cases hil : i < len
        · by_cases hi1 : i < 100
          · obtain ⟨b, off, rfl, hbw, hcN⟩ := HC.out i hil
            have hcN' : wr.cell? ⟨b, off + i * 2 + 1, none⟩ = some (.int .i64 (N i)) := (hsx.cell _).trans ((hb3.cell (p := ⟨b, off + i * 2 + 1, none⟩) hbw).trans hcN)
            have hcv' : wr.cell? ⟨ab, k, none⟩ = some v := (hsx.cell _).trans hcv
            have hi0 : (0 : Int) ≤ (i : Int) := by omega
            have hilI : (i : Int) < (len : Int) := by omega
            have hi1I : (i : Int) < 100 := by omega
            clear hcN
            go_wp2_with fail
            go_quiet ((first
              | (go_at_call 25; exact quiet_from fun m => dead_bad v _ (Still.dead (hsx.drewN m) hdv))
              | (go_at_call 24; exact quiet_from fun m => dead_left v _ (Still.dead (hsx.drewN m) hdv))
              | (go_at_call 18; exact quiet_from fun m => dead_num v _ (Still.dead (hsx.drewN m) hdv))
              | (go_at_call 20; exact quiet_from fun m => dead_text v _ _ (Still.dead (hsx.drewN m) hdv))
              | (go_at_call 22; exact quiet_from fun m => dead_take v _ _ (Still.dead (hsx.drewN m) hdv))))
            go_wp2_with fail
            go_roundw
            case rel => exact ⟨i + 1, by omega, by go_num, hsx.drewN _⟩
            case measure => simp [intOf]; omega
          · have hi1I : (100 : Int) ≤ (i : Int) := by omega
            have hilI : (i : Int) < (len : Int) := by omega
            go_wp2_with fail
            go_roundw
            case rel => exact ⟨k + 1, by omega, by go_num, hsx⟩
            case measure => simp [intOf]; omega
        · have hilI : (len : Int) ≤ (i : Int) := by omega
          go_wp2_with fail
          go_roundw
          case rel => exact ⟨k + 1, by omega, by go_num, hsx⟩
          case measure => simp [intOf]; omega
    · have hkl : (2 : Int) ≤ (k : Int) := by omega
      have hbr : Below w.heap.size w wr := Still.below hb3 hst
      have hD1 := Lib.hid (dead_bad (.pointer (some ⟨w.heap.size, 0, none⟩)) wr (Still.dead hst HD.out))
      have hD2 := Lib.hid (dead_bad (.pointer none) wr (.inl rfl))
      go_wp2_with fail
      refine hD1.out.mono ?_
      rintro e w4 ⟨rfl, hw4⟩
      subst hw4
      go_wp2_with fail
      refine hD2.out.mono ?_
      rintro e w4 ⟨rfl, hw4⟩
      subst hw4
      go_wp2_with (go_at_call 10; refine (head_any _).mono ?_; rintro e w5 ⟨rfl, b5⟩)
      go_ret
      exact ⟨rfl, hbr.trans (b5.mono hbr.size)⟩
end Go.Proofs.Ytkabibbmaekkfaa
