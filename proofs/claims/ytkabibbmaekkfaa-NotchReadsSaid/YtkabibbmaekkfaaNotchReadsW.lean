/-
  LAYER 1: the walk of NotchReads: the program's reader and the document's, call by call.
-/
import Derived.Test.YtkabibbmaekkfaaNotchRefText
import Derived.Deep.QuietTactic
import Derived.BigQuiet
namespace Go.Proofs.Ytkabibbmaekkfaa
open Go.RowKit

/-- A reader's state that can come about. -/
def Live (l : List UInt8) (st : Nat) : Prop := st = 1 ∨ (st = 2 ∧ l = [])
theorem Live.st {l : List UInt8} {st : Nat} (h : Live l st) : st = 1 ∨ st = 2 := by rcases h with h | ⟨h, _⟩ <;> simp [h]

theorem live_take {l : List UInt8} {st : Nat} (n : Int) (h : Live l st) : Live (rTake l st n).2.1 (rTake l st n).2.2 ∧ (rTake l st n).2.1.length ≤ l.length := by
  rcases h with rfl | ⟨rfl, rfl⟩
  · unfold rTake; rw [if_pos rfl]; split
    · exact ⟨.inl rfl, by simp⟩
    · exact ⟨.inr ⟨rfl, rfl⟩, by simp⟩
  · exact ⟨.inr ⟨rfl, rfl⟩, by simp [rTake]⟩
theorem live_num {l : List UInt8} {st : Nat} (h : Live l st) : Live (rNum l st).2.1 (rNum l st).2.2 ∧ (rNum l st).2.1.length ≤ l.length := by
  rcases h with rfl | ⟨rfl, rfl⟩
  · unfold rNum; rw [if_pos rfl]; split
    · exact ⟨.inl rfl, numRest_length l⟩
    · exact ⟨.inr ⟨rfl, rfl⟩, by simp⟩
  · exact ⟨.inr ⟨rfl, rfl⟩, by simp [rNum]⟩
theorem live_text {l : List UInt8} {st : Nat} (n : Int) (h : Live l st) : Live (rText l st n).2.1 (rText l st n).2.2 ∧ (rText l st n).2.1.length ≤ l.length := by
  rcases h with rfl | ⟨rfl, rfl⟩
  · unfold rText; rw [if_pos rfl]; split
    · have := live_take (l := numRest l) (st := 1) (numOf l : Nat) (.inl rfl)
      exact ⟨this.1, Nat.le_trans this.2 (numRest_length l)⟩
    · exact ⟨.inr ⟨rfl, rfl⟩, by simp⟩
  · exact ⟨.inr ⟨rfl, rfl⟩, by simp [rText]⟩

def bd (st : Nat) : Bool := decide (st = 2)
theorem stB_bd {l : List UInt8} {st : Nat} (h : Live l st) : stB false st = bd st := by rcases h with rfl | ⟨rfl, _⟩ <;> rfl

theorem refNum_st {g : Nat} {l : List UInt8} {st : Nat} (w : World) (hv : Live l st) (h : QD w g l (bd st)) (hl : l.length ≤ 1099511627776) :
    Calls Try.prog 19 #[.pointer (some ⟨g, 0, none⟩)] w fun e w' => e = .returned (.int .u64 ((rNum l st).1 : Nat)) ∧ QD w' g (rNum l st).2.1 (bd (rNum l st).2.2) ∧ w.grownBy w' (some g) := by
  have hlive := (live_num hv).1
  rcases hv with rfl | ⟨rfl, rfl⟩
  · refine (refReadNum_any g l false w h hl).mono fun e w' ⟨a, b, c⟩ => ⟨a, ?_, c⟩
    rw [← stB_bd hlive]; exact b
  · exact (refReadNum_any g [] true w h hl).mono fun e w' ⟨a, b, c⟩ => ⟨a, b, c⟩
theorem refText_st {g : Nat} {l : List UInt8} {st : Nat} (n : Int) (w : World) (hv : Live l st) (h : QD w g l (bd st)) (hl : l.length ≤ 1099511627776) (hn : n ≤ 9223372036854775807) :
    Calls Try.prog 21 #[.pointer (some ⟨g, 0, none⟩), .int .i64 n] w fun e w' => e = .returned (.string (mk (rText l st n).1)) ∧ QD w' g (rText l st n).2.1 (bd (rText l st n).2.2) ∧ w.grownBy w' (some g) := by
  have hlive := (live_text n hv).1
  rcases hv with rfl | ⟨rfl, rfl⟩
  · refine (refReadText_any g l n w h hl hn).mono fun e w' ⟨a, b, c⟩ => ⟨a, ?_, c⟩
    rw [← stB_bd hlive]; exact b
  · exact (refReadText_dead g n w h).mono fun e w' ⟨a, b, c⟩ => ⟨a, b, c⟩
theorem refTake_st {g : Nat} {l : List UInt8} {st : Nat} (n : Int) (w : World) (hv : Live l st) (h : QD w g l (bd st)) (hl : l.length ≤ 1099511627776) :
    Calls Try.prog 23 #[.pointer (some ⟨g, 0, none⟩), .int .i64 n] w fun e w' => e = .returned (.string (mk (rTake l st n).1)) ∧ QD w' g (rTake l st n).2.1 (bd (rTake l st n).2.2) ∧ w.grownBy w' (some g) := by
  have hlive := (live_take n hv).1
  rcases hv with rfl | ⟨rfl, rfl⟩
  · refine (refTake_any g l false n w h hl).mono fun e w' ⟨a, b, c⟩ => ⟨a, ?_, c⟩
    rw [← stB_bd hlive]; exact b
  · refine (refTake_any g [] true n w h hl).mono fun e w' ⟨a, b, c⟩ => ?_
    have e1 : (rTake [] 1 n).1 = [] ∧ (rTake [] 1 n).2.1 = [] ∧ stB true (rTake [] 1 n).2.2 = true := by
      unfold rTake; rw [if_pos rfl]; split <;> simp [stB]
    rw [e1.1] at a
    rw [e1.2.1, e1.2.2] at b
    exact ⟨a, b, c⟩

theorem left_st {g : Nat} {l : List UInt8} {st : Nat} (w : World) (hv : Live l st) (h : RD w g l st) :
    Calls Try.prog 24 #[.pointer (some ⟨g, 0, none⟩)] w fun e w' => e = .returned (.int .i64 (l.length : Nat)) ∧ w' = w := by
  rcases hv with rfl | ⟨rfl, rfl⟩
  · exact (leftR_good g l w h).mono fun _ _ ⟨a, b⟩ => ⟨a, b.symm⟩
  · exact (leftR_bad g [] w h).mono fun _ _ ⟨a, b⟩ => ⟨a, b.symm⟩
theorem bad_st {g : Nat} {l : List UInt8} {st : Nat} (w : World) (hv : Live l st) (h : RD w g l st) :
    Calls Try.prog 25 #[.pointer (some ⟨g, 0, none⟩)] w fun e w' => e = .returned (.bool (bd st)) ∧ w' = w :=
  (bad_any g l st w h hv.st).mono fun _ _ ⟨a, b⟩ => ⟨a, b.symm⟩

theorem quiet_at {P : Program} {f : FuncId} {args : Array Value} {w : World} {n : Nat} {v : Value} (h : ∀ m, Calls P f args (w.drewN m) fun e w' => e = .returned v ∧ w' = w.drewN m) :
    Calls P f args (w.drewN n) fun e w'' => e = .returned v ∧ ∃ m, w'' = w.drewN m := (h n).mono fun _ _ ⟨a, b⟩ => ⟨a, n, b⟩

theorem QD.far {w w' : World} {g h : Nat} {l : List UInt8} {b : Bool} (q : QD w h l b) (k : w.grownBy w' (some g)) (hne : h ≠ g) : QD w' h l b := (k.block h q.lt (by simp; exact hne)).trans q
theorem RD.far {w w' : World} {g h : Nat} {l : List UInt8} {st : Nat} (q : RD w g l st) (k : w.grownBy w' (some h)) (hne : g ≠ h) : RD w' g l st := (k.block g q.lt (by simp; exact hne)).trans q

set_option maxHeartbeats 1000000 in
theorem reads_long (s : ByteArray) (v : Value) (w : World) (h : 3000 < s.size) :
    Calls Try.prog 4 #[.string s, v] w fun e w' => e = .returned (.bool true) ∧ Below w.heap.size w w' := by
  have h' : (3000 : Int) < (s.size : Int) := by omega
  go_enter Try.func4, Try.ntmps4
  go_wp2_with (go_at_call 10; refine (head_any _).mono ?_; rintro e w1 ⟨rfl, b1⟩)
  go_ret
  exact ⟨rfl, b1⟩

def ReadsRel (len g h : Nat) (w : World) (i : Value) (wr : World) : Prop :=
  ∃ (k : Nat) (rest : List UInt8) (st : Nat), k ≤ len ∧ i = .int .i64 (k : Int) ∧ Live rest st ∧ rest.length ≤ 3000 ∧ RD wr g rest st ∧ QD wr h rest (bd st) ∧ Below w.heap.size w wr

set_option maxRecDepth 100000 in
set_option maxHeartbeats 4000000 in
theorem reads_any (l : List UInt8) (A : Option Addr) (len cap : Nat) (what : Nat → Nat) (N : Nat → Int) (w : World) (hl : l.length ≤ 3000)
    (hwhat : ∀ i, what i < 256) (hN : ∀ i, -9223372036854775808 ≤ N i ∧ N i ≤ 9223372036854775807)
    (hc : ∀ i, i < len → ∃ b off, A = some ⟨b, off, none⟩ ∧ b < w.heap.size ∧ w.cell? ⟨b, off + i * 2, none⟩ = some (.int .u8 (what i : Int)) ∧ w.cell? ⟨b, off + i * 2 + 1, none⟩ = some (.int .i64 (N i))) :
    Calls Try.prog 4 #[.string (mk l), .slice A len cap] w fun e w' => e = .returned (.bool true) ∧ Below w.heap.size w w' := by
  have hs : ((mk l).size : Int) ≤ 3000 := by rw [mk_size]; omega
  have HC := Lib.hid hc
  have HW := Lib.hid hwhat
  have HN := Lib.hid hN
  clear hc hwhat hN
  go_enter Try.func4, Try.ntmps4
  go_wp2_with fail
  refine (open_any (mk l) _).mono ?_
  rintro e w1 ⟨rfl, h1, b1⟩
  rw [mk_toList] at h1
  obtain ⟨g, hg⟩ : ∃ g, g = w.heap.size := ⟨_, rfl⟩
  rw [← hg] at h1
  obtain ⟨hh, hhh⟩ : ∃ hh, hh = w1.heap.size := ⟨_, rfl⟩
  have hgh : g < hh := by have := h1.lt; omega
  have hgw : w.heap.size ≤ g := by omega
  have hr0 : RD (w1.alloc (.cells #[.string (mk l), .bool false] 36)) g l 1 := (Below.heap_alloc w1 _ _ h1.lt).trans h1
  have hq0 : QD (w1.alloc (.cells #[.string (mk l), .bool false] 36)) hh l (bd 1) := by rw [hhh]; exact heap_alloc_new w1 _
  have hb0 : Below w.heap.size w (w1.alloc (.cells #[.string (mk l), .bool false] 36)) := b1.alloc b1.size _
  have HR0 := Lib.hid hr0
  have HQ0 := Lib.hid hq0
  have HB0 := Lib.hid hb0
  clear hr0 hq0 hb0 h1 b1
  go_wp2_with fail
  rw [← hg, ← hhh]
  clear hg hhh
  go_loopw [7] (fun i wr => ReadsRel len g hh w i wr) (fun i _ => len - (intOf i).toNat)
  case atStart => exact ⟨0, l, 1, Nat.zero_le _, rfl, .inl rfl, hl, HR0.out, HQ0.out, HB0.out⟩
  case round =>
    obtain ⟨k, rest, st, hk, rfl, hlive, hrl, hrd, hqd, hbel⟩ := hrel
    have hbs := hbel.size
    have hk0 : (0 : Int) ≤ (k : Int) := by omega
    by_cases hlt : k < len
    · have hkl : (k : Int) < (len : Int) := by omega
      by_cases hk1 : k < 100
      · have hk1I : (k : Int) < 100 := by omega
        obtain ⟨b, off, rfl, hbw, hcW0, hcN0⟩ := HC.out k hlt
        have hcW : wr.cell? ⟨b, off + k * 2, none⟩ = some (.int .u8 (what k : Int)) := (hbel.cell (p := ⟨b, off + k * 2, none⟩) hbw).trans hcW0
        have hcN : wr.cell? ⟨b, off + k * 2 + 1, none⟩ = some (.int .i64 (N k)) := (hbel.cell (p := ⟨b, off + k * 2 + 1, none⟩) hbw).trans hcN0
        clear hcW0 hcN0
        have hq := HW.out k
        have hn := HN.out k
        generalize what k = q at *
        generalize N k = n at *
        obtain ⟨hn1, hn2⟩ := hn
        have h4 : q % 4 = 0 ∨ q % 4 = 1 ∨ q % 4 = 2 ∨ q % 4 = 3 := by omega
        have hbg : b ≠ g := by omega
        have hbh : b ≠ hh := by omega
        rcases h4 with h4 | h4 | h4 | h4
        · have t0 : (((q : Int) % 4) == 0) = true := beq_iff_eq.2 (by omega)
          clear h4
          go_wp2_with fail
          refine (numR_any g rest st _ hrd hlive.st (by omega)).mono ?_
          rintro e w2 ⟨rfl, h2, g2⟩
          have hq2 := hqd.far g2 (by omega)
          go_wp2_with fail
          refine (refNum_st w2 hlive hq2 (by omega)).mono ?_
          rintro e w3 ⟨rfl, hq3, g3⟩
          have hr3 := h2.far g3 (by omega)
          have hb3 : Below w.heap.size w w3 := below_grown (below_grown hbel g2 hbs hgw) g3 (by have := g2.size; omega) (by omega)
          have hl3 := live_num hlive
          generalize (rNum rest st).2.1 = rest' at *
          generalize (rNum rest st).2.2 = st' at *
          generalize (rNum rest st).1 = x at *
          obtain ⟨hl4, hl5⟩ := hl3
          have hc0 := hq3.c0
          have hc1 := hq3.c1
          have hbn : ((((rest'.length : Nat) : Int)) != (((mk rest').size : Nat) : Int)) = false := by rw [mk_size]; simp
          have HBAD := Lib.hid (fun m => bad_st (w3.drewN m) hl4 hr3)
          have HLFT := Lib.hid (fun m => left_st (w3.drewN m) hl4 hr3)
          have HFIN : Hid (∀ m, ReadsRel len g hh w (.int .i64 ((k : Int) + 1)) (w3.drewN m)) := Lib.hid (fun m => ⟨k + 1, rest', st', by omega, by go_num, hl4, by omega, hr3, hq3, hb3.trans ⟨rfl, rfl, rfl, Nat.le_refl _, fun _ _ => rfl⟩⟩)
          clear hq3 hl4 hl5 hr3 hb3
          generalize bd st' = bb at *
          go_wp2_with fail
          go_quiet ((first | (go_at_call 24; exact quiet_at HLFT.out) | (go_at_call 25; exact quiet_at HBAD.out)))
          go_wp2_with fail
          go_roundw
          case rel => exact HFIN.out _
          case measure => simp [intOf]; omega
        · have t0 : (((q : Int) % 4) == 0) = false := beq_eq_false_iff_ne.2 (by omega)
          have t1 : (((q : Int) % 4) == 1) = true := beq_iff_eq.2 (by omega)
          clear h4
          go_wp2_with fail
          go_region_held3 (fun w' => w'.cell? ⟨b, off + k * 2 + 1, none⟩ = some (.int .i64 n)) (first | go_keep | exact g3.cell (a := ⟨b, off + k * 2 + 1, none⟩) (by assumption) (by simp; exact hbh) | exact g2.cell (a := ⟨b, off + k * 2 + 1, none⟩) (by assumption) (by simp; exact hbg))
            (first
              | (go_at_call 20; refine (textR_any g rest st n wr.drew hrd hlive.st (by omega) hn2).mono ?_; rintro e w2 ⟨rfl, h2, g2⟩)
              | (go_at_call 21; refine (refText_st n _ hlive (QD.far (w := wr.drew) hqd g2 (by omega)) (by omega) hn2).mono ?_; rintro e w3 ⟨rfl, hq3, g3⟩))
          have hr3 := h2.far g3 (by omega)
          have hb3 : Below w.heap.size w w3 := below_grown (below_grown (b := wr.drew) hbel.drew g2 hbs hgw) g3 (Nat.le_trans hbs g2.size) (by omega)
          have hl3 := live_text n hlive
          generalize (rText rest st n).2.1 = rest' at *
          generalize (rText rest st n).2.2 = st' at *
          generalize (rText rest st n).1 = x at *
          obtain ⟨hl4, hl5⟩ := hl3
          have hc0 := hq3.c0
          have hc1 := hq3.c1
          have hbn : ((((rest'.length : Nat) : Int)) != (((mk rest').size : Nat) : Int)) = false := by rw [mk_size]; simp
          have HBAD := Lib.hid (fun m => bad_st (w3.drewN m) hl4 hr3)
          have HLFT := Lib.hid (fun m => left_st (w3.drewN m) hl4 hr3)
          have HFIN : Hid (∀ m, ReadsRel len g hh w (.int .i64 ((k : Int) + 1)) (w3.drewN m)) := Lib.hid (fun m => ⟨k + 1, rest', st', by omega, by go_num, hl4, by omega, hr3, hq3, hb3.trans ⟨rfl, rfl, rfl, Nat.le_refl _, fun _ _ => rfl⟩⟩)
          clear hq3 hl4 hl5 hr3 hb3
          generalize bd st' = bb at *
          go_wp2_with fail
          go_quiet ((first | (go_at_call 24; exact quiet_at HLFT.out) | (go_at_call 25; exact quiet_at HBAD.out)))
          go_wp2_with fail
          go_roundw
          case rel => exact HFIN.out _
          case measure => simp [intOf]; omega
        · have t0 : (((q : Int) % 4) == 0) = false := beq_eq_false_iff_ne.2 (by omega)
          have t1 : (((q : Int) % 4) == 1) = false := beq_eq_false_iff_ne.2 (by omega)
          have t2 : (((q : Int) % 4) == 2) = true := beq_iff_eq.2 (by omega)
          clear h4
          go_wp2_with fail
          go_region_held3 (fun w' => w'.cell? ⟨b, off + k * 2 + 1, none⟩ = some (.int .i64 n)) (first | go_keep | exact g3.cell (a := ⟨b, off + k * 2 + 1, none⟩) (by assumption) (by simp; exact hbh) | exact g2.cell (a := ⟨b, off + k * 2 + 1, none⟩) (by assumption) (by simp; exact hbg))
            (first
              | (go_at_call 22; refine (takeR_any g rest st n wr.drew hrd hlive.st (by omega)).mono ?_; rintro e w2 ⟨rfl, h2, g2⟩)
              | (go_at_call 23; refine (refTake_st n _ hlive (QD.far (w := wr.drew) hqd g2 (by omega)) (by omega)).mono ?_; rintro e w3 ⟨rfl, hq3, g3⟩))
          have hr3 := h2.far g3 (by omega)
          have hb3 : Below w.heap.size w w3 := below_grown (below_grown (b := wr.drew) hbel.drew g2 hbs hgw) g3 (Nat.le_trans hbs g2.size) (by omega)
          have hl3 := live_take n hlive
          generalize (rTake rest st n).2.1 = rest' at *
          generalize (rTake rest st n).2.2 = st' at *
          generalize (rTake rest st n).1 = x at *
          obtain ⟨hl4, hl5⟩ := hl3
          have hc0 := hq3.c0
          have hc1 := hq3.c1
          have hbn : ((((rest'.length : Nat) : Int)) != (((mk rest').size : Nat) : Int)) = false := by rw [mk_size]; simp
          have HBAD := Lib.hid (fun m => bad_st (w3.drewN m) hl4 hr3)
          have HLFT := Lib.hid (fun m => left_st (w3.drewN m) hl4 hr3)
          have HFIN : Hid (∀ m, ReadsRel len g hh w (.int .i64 ((k : Int) + 1)) (w3.drewN m)) := Lib.hid (fun m => ⟨k + 1, rest', st', by omega, by go_num, hl4, by omega, hr3, hq3, hb3.trans ⟨rfl, rfl, rfl, Nat.le_refl _, fun _ _ => rfl⟩⟩)
          clear hq3 hl4 hl5 hr3 hb3
          generalize bd st' = bb at *
          go_wp2_with fail
          go_quiet ((first | (go_at_call 24; exact quiet_at HLFT.out) | (go_at_call 25; exact quiet_at HBAD.out)))
          go_wp2_with fail
          go_roundw
          case rel => exact HFIN.out _
          case measure => simp [intOf]; omega
        · have t0 : (((q : Int) % 4) == 0) = false := beq_eq_false_iff_ne.2 (by omega)
          have t1 : (((q : Int) % 4) == 1) = false := beq_eq_false_iff_ne.2 (by omega)
          have t2 : (((q : Int) % 4) == 2) = false := beq_eq_false_iff_ne.2 (by omega)
          clear h4
          obtain ⟨w3, rfl⟩ : ∃ w3, w3 = wr := ⟨_, rfl⟩
          obtain ⟨rest', rfl⟩ : ∃ r, r = rest := ⟨_, rfl⟩
          obtain ⟨st', rfl⟩ : ∃ s, s = st := ⟨_, rfl⟩
          have hr3 := hrd
          have hq3 := hqd
          have hb3 := hbel
          have hl3 : Live rest' st' ∧ rest'.length ≤ rest'.length := ⟨hlive, Nat.le_refl _⟩
          obtain ⟨hl4, hl5⟩ := hl3
          have hc0 := hq3.c0
          have hc1 := hq3.c1
          have hbn : ((((rest'.length : Nat) : Int)) != (((mk rest').size : Nat) : Int)) = false := by rw [mk_size]; simp
          have HBAD := Lib.hid (fun m => bad_st (w3.drewN m) hl4 hr3)
          have HLFT := Lib.hid (fun m => left_st (w3.drewN m) hl4 hr3)
          have HFIN : Hid (∀ m, ReadsRel len g hh w (.int .i64 ((k : Int) + 1)) (w3.drewN m)) := Lib.hid (fun m => ⟨k + 1, rest', st', by omega, by go_num, hl4, by omega, hr3, hq3, hb3.trans ⟨rfl, rfl, rfl, Nat.le_refl _, fun _ _ => rfl⟩⟩)
          clear hq3 hl4 hl5 hr3 hb3
          generalize bd st' = bb at *
          go_wp2_with fail
          go_quiet ((first | (go_at_call 24; exact quiet_at HLFT.out) | (go_at_call 25; exact quiet_at HBAD.out)))
          go_wp2_with fail
          go_roundw
          case rel => exact HFIN.out _
          case measure => simp [intOf]; omega
      · have hk1I : (100 : Int) ≤ (k : Int) := by omega
        go_wp2_with (go_at_call 10; refine (head_any _).mono ?_; rintro e w4 ⟨rfl, b4⟩)
        go_ret
        exact ⟨rfl, hbel.trans (b4.mono hbs)⟩
    · have hkl : (len : Int) ≤ (k : Int) := by omega
      go_wp2_with (go_at_call 10; refine (head_any _).mono ?_; rintro e w4 ⟨rfl, b4⟩)
      go_ret
      exact ⟨rfl, hbel.trans (b4.mono hbs)⟩
end Go.Proofs.Ytkabibbmaekkfaa
