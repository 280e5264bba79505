/-
  The texts ChaAny, ChaPut, ChaOf, ChaPrg, ChaMade, one behind the other.
-/
import Derived.Test.YtcbebikcfcidmaaDoorChaZ18
import Derived.Test.YtcbebikcfcidmaaDoorChaZ16
import Derived.Test.YtcbebikcfcidmaaDoorChaZ13

namespace Go.Proofs.YtcbebikcfcidmaaDoor
open Go.RowKit Go.Maps

def chartS (S : MkS) (u l h : Int) : Int × Int × Int × MkS :=
  if l = -1 then
    if h = -1 then endS (numS S (frOf 0)) fun j S => (u, j, 0, S)
    else endS (runL [fun i S => oneS S 8 i, fun i S => twoS S 4 h i] u S) fun x S => (x, u, 0, S)
  else if h = -1 then endS (runL [fun i S => oneS S 8 i, fun i S => twoS S 3 l i] u S) fun x S => (x, u, 0, S)
  else btw1 S u l h
def putC (S : MkS) (u l h : Int) : Int × Int × Int × MkS := if askB S u l h = true then chartS S u l h else (0, 0, 2, S)

section
variable {w0 w : World} {P : Nat → Prop} {m : Value} {S : MkS}
set_option maxHeartbeats 1000000 in
theorem chart_both {u l h : Int} (ho : Ours w0 w P m S) (ht : Tab w0) (hu : I64 u) (hl : I64 l) (hh : I64 h) (nl : ¬ l = -1) (nh : ¬ h = -1) :
    Calls Tryd.prog 20 #[.agg #[m], .int .i64 u, .int .i64 l, .int .i64 h] w (PairPost w0 w P m (btw1 S u l h)) := by
  obtain ⟨pm, rfl⟩ := ho.ptr
  have hg1 : Grow w (w.alloc (.cells #[.pointer (some ⟨pm, 0, none⟩)] 60)) := Grow.alloc w _
  have hb1 : BlkOf (w.alloc (.cells #[.pointer (some ⟨pm, 0, none⟩)] 60)) w.heap.size #[.pointer (some ⟨pm, 0, none⟩)] 60 := BlkOf.new w _ _
  have HB := Lib.hid (between_any (ho.more hg1) ht hu hl hh)
  have HG1 := Lib.hid hg1
  have c0 := hb1.at 0 rfl
  obtain ⟨r, hr⟩ : ∃ r, r = btw1 S u l h := ⟨_, rfl⟩
  rw [← hr] at HB ⊢
  have q1 : (l == -1) = false := by simp; exact nl
  have q2 : (h == -1) = false := by simp; exact nh
  clear ho ht hu hl hh hg1 hb1 hr
  go_enter Tryd.func20, Tryd.ntmps20
  go_wp2_with (first | (go_at_call 35; refine HB.out.mono ?_) | fail)
  intro e w2 hp
  have HP := Lib.hid hp
  have HTH := Lib.hid (hp.1.ahead HG1.out)
  obtain ⟨x, j, e0, S'⟩ := r
  rcases hp.2.2.2 with ⟨he, rfl⟩ | ⟨he, rfl⟩
  · dsimp only at he
    subst he
    clear hp
    go_wp2_with fail
    go_ret2
    exact ⟨HTH.out, HP.out.2.1, HP.out.2.2.1, .inl ⟨rfl, rfl⟩⟩
  · clear hp
    go_wp2_with fail
    exact ⟨rfl, HTH.out, HP.out.2.1, HP.out.2.2.1, .inr ⟨he, rfl⟩⟩
theorem chart_any {u l h : Int} (ho : Ours w0 w P m S) (ht : Tab w0) (hu : I64 u) (hl : I64 l) (hh : I64 h) :
    Calls Tryd.prog 20 #[.agg #[m], .int .i64 u, .int .i64 l, .int .i64 h] w (PairPost w0 w P m (chartS S u l h)) := by
  unfold chartS
  by_cases h1 : l = -1
  · rw [if_pos h1]
    by_cases h2 : h = -1
    · rw [if_pos h2, h1, h2]; exact chart_none ho hu
    · rw [if_neg h2, h1]; exact chart_high ho ht hu hh h2
  · rw [if_neg h1]
    by_cases h2 : h = -1
    · rw [if_pos h2, h2]; exact chart_low ho ht hu hl h1
    · rw [if_neg h2]; exact chart_both ho ht hu hl hh h1 h2

/-- As behind a call on the maker, but for blocks of the face's own, which were made ahead of it. -/
def Poked (w0 w W1 : World) (P : Nat → Prop) (m : Value) (S' : MkS) (w3 : World) : Prop :=
  ∃ w2, Then w0 W1 P m S' w2 ∧ w3.os = w2.os ∧ w3.tape = w2.tape ∧ w3.output = w2.output ∧ w3.heap.size = w2.heap.size ∧ ∀ k, ¬ (w.heap.size ≤ k ∧ k < W1.heap.size) → w3.heap[k]? = w2.heap[k]?
theorem Poked.of {W1 w2 : World} {S' : MkS} (h : Then w0 W1 P m S' w2) : Poked w0 w W1 P m S' w2 := ⟨w2, h, rfl, rfl, rfl, rfl, fun _ _ => rfl⟩
theorem Poked.drew {W1 w3 : World} {S' : MkS} (h : Poked w0 w W1 P m S' w3) : Poked w0 w W1 P m S' w3.drew := by
  obtain ⟨w2, h1, h2, h3, h4, h5, h6⟩ := h
  exact ⟨w2, h1, h2, h3, h4, h5, h6⟩
theorem Poked.set {W1 w3 : World} {S' : MkS} (h : Poked w0 w W1 P m S' w3) {b : Nat} (h1 : w.heap.size ≤ b) (h2 : b < W1.heap.size) (i : Nat) (v : Value) : Poked w0 w W1 P m S' (w3.setCell ⟨b, i, none⟩ v) := by
  obtain ⟨w2, q1, q2, q3, q4, q5, q6⟩ := h
  exact ⟨w2, q1, q2, q3, q4, (size_set _ _ _).trans q5, fun k hk => (Below.heap_setCell _ _ _ _ (fun e => hk (by rw [show k = b from e]; exact ⟨h1, h2⟩))).trans (q6 k hk)⟩
theorem Poked.then {W1 w3 : World} {S' : MkS} (h : Poked w0 w W1 P m S' w3) (hg : Grow w W1) (ho : Ours w0 w P m S) : Then w0 w P m S' w3 := by
  obtain ⟨w2, ⟨hs, P', ha, hb, ho2⟩, q2, q3, q4, q5, q6⟩ := h
  have hlt := ho.one.lt
  have hsz : w.heap.size ≤ W1.heap.size := Below.size hg
  have hs2 := hs.size
  have hw0 : w0.heap.size ≤ w.heap.size := Below.size ho.grow
  refine ⟨⟨q2.trans (hs.os.trans hg.os), q3.trans (hs.tape.trans hg.tape), q4.trans (hs.output.trans hg.output), by omega, fun k hk hn => ?_, fun b cs t hbk h1 h2 => ?_⟩, P', ha, fun k hk => ?_, ?_, ho2.low, ?_⟩
  · rw [q6 k (by omega), hs.other k (by omega) hn, hg.block k hk]
  · have h3 := hs.kinds b cs t (hbk.below hg hbk.lt) h1 h2
    unfold BlkOf at h3 ⊢
    rw [q6 b (by have := hbk.lt; omega)]
    exact h3
  · rcases hb k hk with h1 | h1
    · exact .inl h1
    · exact .inr (by omega)
  · refine ho2.one.kept (fun k hk => q6 k ?_) (by omega)
    rcases hb k hk with h1 | h1
    · have := hlt k h1; omega
    · omega
  · have hg2 := ho2.grow
    refine ⟨q2.trans hg2.os, q3.trans hg2.tape, q4.trans hg2.output, by have := Below.size hg2; omega, fun k hk => ?_⟩
    rw [q6 k (by omega), hg2.block k hk]
end
end Go.Proofs.YtcbebikcfcidmaaDoor

namespace Go.Proofs.YtcbebikcfcidmaaDoor
open Go.RowKit Go.Maps

section
variable {w0 w : World} {P : Nat → Prop} {m : Value} {S : MkS}
/-- Beside an error the zero values. -/
def Zeroed (r : Int × Int × Int × MkS) : Prop := r.2.2.1 ≠ 0 → r.1 = 0 ∧ r.2.1 = 0
theorem endS_zeroed {r : Int × Int × MkS} {f : Int → MkS → Int × Int × Int × MkS} (h : ∀ i S, Zeroed (f i S)) : Zeroed (endS r f) := by
  unfold endS
  split
  · exact h _ _
  · exact fun _ => ⟨rfl, rfl⟩
theorem ok_zeroed (x j : Int) (S : MkS) : Zeroed (x, j, 0, S) := fun h => absurd rfl h
theorem chartS_zeroed (S : MkS) (u l h : Int) : Zeroed (chartS S u l h) := by
  unfold chartS
  split
  · split
    · exact endS_zeroed fun _ _ => ok_zeroed _ _ _
    · exact endS_zeroed fun _ _ => ok_zeroed _ _ _
  · split
    · exact endS_zeroed fun _ _ => ok_zeroed _ _ _
    · exact endS_zeroed fun _ _ => endS_zeroed fun _ _ => endS_zeroed fun _ _ => endS_zeroed fun _ _ => endS_zeroed fun _ _ => endS_zeroed fun _ _ => ok_zeroed _ _ _
/-- Behind Put. -/
def PutPost (w0 w : World) (P : Nat → Prop) (m : Value) (r : Int × Int × Int × MkS) (e : Ending) (w' : World) : Prop :=
  e = .returned (.tuple #[.int .i64 r.1, .int .i64 r.2.1, .int .i64 r.2.2.1]) ∧ Then w0 w P m r.2.2.2 w' ∧ I64 r.1 ∧ I64 r.2.1
set_option maxRecDepth 100000 in
set_option maxHeartbeats 4000000 in
theorem put_some {u l h : Int} (ho : Ours w0 w P m S) (ht : Tab w0) (hu : I64 u) (hl : I64 l) (hh : I64 h) :
    Calls Tryd.prog 9 #[m, .int .i64 u, .int .i64 l, .int .i64 h] w (PutPost w0 w P m (putC S u l h)) := by
  have hmf : ∀ (fn : Fn) (first cap : Array Value) (w : World), (Instr.makeFunc fn first cap).run Tryd.prog w = .ok (.func fn first cap) w := fun _ _ _ _ => rfl
  obtain ⟨pm, rfl⟩ := ho.ptr
  obtain ⟨r, hr⟩ : ∃ r, r = putC S u l h := ⟨_, rfl⟩
  rw [← hr]
  obtain ⟨W1, hW1⟩ : ∃ W1, W1 = ((((w.alloc (.cells #[.int .i64 0] 3)).alloc (.cells #[.int .i64 0] 3)).alloc (.cells #[.int .i64 0] 24)).alloc (.cells #[.pointer (some ⟨pm, 0, none⟩)] 60)) := ⟨_, rfl⟩
  have hg1 : Grow w W1 := by rw [hW1]; exact (((Grow.alloc w _).trans (Grow.alloc _ _)).trans (Grow.alloc _ _)).trans (Grow.alloc _ _)
  have hsz : W1.heap.size = w.heap.size + 4 := by rw [hW1]; simp
  have b8 : BlkOf W1 w.heap.size #[.int .i64 0] 3 := by rw [hW1]; exact (((BlkOf.new w _ _).alloc _).alloc _).alloc _
  have b9 : BlkOf W1 (w.heap.size + 1) #[.int .i64 0] 3 := by rw [hW1]; exact ((BlkOf.news (by simp) _ _).alloc _).alloc _
  have b10 : BlkOf W1 (w.heap.size + 1 + 1) #[.int .i64 0] 24 := by rw [hW1]; exact (BlkOf.news (by simp) _ _).alloc _
  have b11 : BlkOf W1 (w.heap.size + 1 + 1 + 1) #[.pointer (some ⟨pm, 0, none⟩)] 60 := by rw [hW1]; exact BlkOf.news (by simp) _ _
  have HCK := Lib.hid (check_some (l := l) (h := h) (ho.more hg1) ht hu)
  have HG1 := Lib.hid hg1
  have HSZ := Lib.hid hsz
  have B8 := Lib.hid b8
  have B9 := Lib.hid b9
  have B10 := Lib.hid b10
  have B11 := Lib.hid b11
  have HR := Lib.hid hr
  have HO := Lib.hid ho
  have HT := Lib.hid ht
  have HI := Lib.hid (And.intro hu (And.intro hl hh))
  obtain ⟨ok, hok⟩ : ∃ ok, ok = askB S u l h := ⟨_, rfl⟩
  rw [← hok] at HCK
  have HOK := Lib.hid hok
  have HW1 := Lib.hid hW1
  subst hW1
  clear ho ht hu hl hh hr hg1 hsz b8 b9 b10 b11 hok
  go_enter_defers Tryd.func9, Tryd.ntmps9
  go_wp2_with (first | (go_at_call 19; refine HCK.out.mono ?_) | fail)
  intro e w2 hp
  obtain ⟨hth, hp2⟩ := hp
  have TH := Lib.hid hth
  have C8 := Lib.hid (hth.kinds _ _ _ B8.out (by decide) (by decide))
  have C9 := Lib.hid (hth.kinds _ _ _ B9.out (by decide) (by decide))
  have C10 := Lib.hid (hth.kinds _ _ _ B10.out (by decide) (by decide))
  have C11 := Lib.hid (hth.kinds _ _ _ B11.out (by decide) (by decide))
  rcases hp2 with ⟨hk, rfl⟩ | ⟨hk, rfl⟩
  · obtain ⟨P2, ho2, hnx⟩ := hth.next
    have HCH := Lib.hid (chart_any ho2 HT.out HI.out.1 HI.out.2.1 HI.out.2.2)
    have hrc : r = chartS S u l h := by rw [HR.out]; unfold putC; rw [← HOK.out, if_pos hk]
    rw [← hrc] at HCH
    have hz : Zeroed r := by rw [hrc]; exact chartS_zeroed S u l h
    have HZ := Lib.hid hz
    have HNX := Lib.hid hnx
    have c11 := C11.out.at 0 rfl
    clear hth ho2 hnx hrc hz
    go_wp2_with (first | (go_at_call 20; refine HCH.out.mono ?_) | fail)
    intro e w3 hp
    obtain ⟨hth, hp1, hp2, hp3⟩ := hp
    have TH3 := Lib.hid (HNX.out _ _ hth)
    have D8 := Lib.hid (hth.kinds _ _ _ C8.out (by decide) (by decide))
    have D9 := Lib.hid (hth.kinds _ _ _ C9.out (by decide) (by decide))
    have D10 := Lib.hid (hth.kinds _ _ _ C10.out (by decide) (by decide))
    obtain ⟨x, j, e0, S'⟩ := r
    have HX := Lib.hid (And.intro hp1 hp2)
    rcases hp3 with ⟨he, rfl⟩ | ⟨he, rfl⟩
    · dsimp only at he
      subst he
      have s8 := D8.out.at 0 rfl
      have s9 := D9.out.at 0 rfl
      have s10 := D10.out.at 0 rfl
      have z8 := D8.out.free 0
      have z9 := D9.out.free 0
      have z10 := D10.out.free 0
      clear hth hp1 hp2
      have t8 : BlkOf ((w3.setCell ⟨w.heap.size, 0, none⟩ (.int .i64 x)).setCell ⟨w.heap.size + 1, 0, none⟩ (.int .i64 j)) w.heap.size #[.int .i64 x] 3 := (D8.out.set 0 (.int .i64 x)).other (p := ⟨w.heap.size + 1, 0, none⟩) (by show w.heap.size + 1 ≠ _; omega) _
      have t9 : BlkOf ((w3.setCell ⟨w.heap.size, 0, none⟩ (.int .i64 x)).setCell ⟨w.heap.size + 1, 0, none⟩ (.int .i64 j)) (w.heap.size + 1) #[.int .i64 j] 3 := (D9.out.other (p := ⟨w.heap.size, 0, none⟩) (by show w.heap.size ≠ _; omega) (.int .i64 x)).set 0 (.int .i64 j)
      have t10 : BlkOf ((w3.setCell ⟨w.heap.size, 0, none⟩ (.int .i64 x)).setCell ⟨w.heap.size + 1, 0, none⟩ (.int .i64 j)) (w.heap.size + 1 + 1) #[.int .i64 0] 24 := (D10.out.other (p := ⟨w.heap.size, 0, none⟩) (by show w.heap.size ≠ _; omega) (.int .i64 x)).other (p := ⟨w.heap.size + 1, 0, none⟩) (by show w.heap.size + 1 ≠ _; omega) _
      have T8 := Lib.hid t8
      have T9 := Lib.hid t9
      have T10 := Lib.hid t10
      have y8 := t8.at 0 rfl
      have y9 := t9.at 0 rfl
      have y10 := t10.at 0 rfl
      have x8 := t8.free 0
      have x9 := t9.free 0
      have x10 := t10.free 0
      clear t8 t9 t10
      go_wp2_with fail
      go_region
      go_wp2_with fail
      refine leaves_cons (f := 18) (args := #[.pointer (some ⟨w.heap.size, 0, none⟩), .pointer (some ⟨w.heap.size + 1, 0, none⟩), .pointer (some ⟨w.heap.size + 1 + 1, 0, none⟩)]) (by simp) (by simp [go_sem]) ?_
      refine (put1_idle ⟨w.heap.size, 0, none⟩ ⟨w.heap.size + 1, 0, none⟩ ⟨w.heap.size + 1 + 1, 0, none⟩ _).mono ?_
      rintro e' u' w'' ⟨rfl, rfl, rfl⟩
      have hpk := (((((Poked.of (w := w) TH3.out).set (Nat.le_refl _) (by rw [HSZ.out]; omega) 0 (.int .i64 x)).set (b := w.heap.size + 1) (by omega) (by rw [HSZ.out]; omega) 0 (.int .i64 j)).set (Nat.le_refl _) (by rw [HSZ.out]; omega) 0 (.int .i64 x)).set (b := w.heap.size + 1) (by omega) (by rw [HSZ.out]; omega) 0 (.int .i64 j)).set (b := w.heap.size + 1 + 1) (by omega) (by rw [HSZ.out]; omega) 0 (.int .i64 0)
      have k8 : BlkOf (((((w3.setCell ⟨w.heap.size, 0, none⟩ (.int .i64 x)).setCell ⟨w.heap.size + 1, 0, none⟩ (.int .i64 j)).setCell ⟨w.heap.size, 0, none⟩ (.int .i64 x)).setCell ⟨w.heap.size + 1, 0, none⟩ (.int .i64 j)).setCell ⟨w.heap.size + 1 + 1, 0, none⟩ (.int .i64 0)) w.heap.size #[.int .i64 x] 3 := ((T8.out.set 0 (.int .i64 x)).other (p := ⟨w.heap.size + 1, 0, none⟩) (by show w.heap.size + 1 ≠ _; omega) (.int .i64 j)).other (p := ⟨w.heap.size + 1 + 1, 0, none⟩) (by show w.heap.size + 1 + 1 ≠ _; omega) (.int .i64 0)
      have k9 : BlkOf (((((w3.setCell ⟨w.heap.size, 0, none⟩ (.int .i64 x)).setCell ⟨w.heap.size + 1, 0, none⟩ (.int .i64 j)).setCell ⟨w.heap.size, 0, none⟩ (.int .i64 x)).setCell ⟨w.heap.size + 1, 0, none⟩ (.int .i64 j)).setCell ⟨w.heap.size + 1 + 1, 0, none⟩ (.int .i64 0)) (w.heap.size + 1) #[.int .i64 j] 3 := ((T9.out.other (p := ⟨w.heap.size, 0, none⟩) (by show w.heap.size ≠ _; omega) (.int .i64 x)).set 0 (.int .i64 j)).other (p := ⟨w.heap.size + 1 + 1, 0, none⟩) (by show w.heap.size + 1 + 1 ≠ _; omega) (.int .i64 0)
      have k10 : BlkOf (((((w3.setCell ⟨w.heap.size, 0, none⟩ (.int .i64 x)).setCell ⟨w.heap.size + 1, 0, none⟩ (.int .i64 j)).setCell ⟨w.heap.size, 0, none⟩ (.int .i64 x)).setCell ⟨w.heap.size + 1, 0, none⟩ (.int .i64 j)).setCell ⟨w.heap.size + 1 + 1, 0, none⟩ (.int .i64 0)) (w.heap.size + 1 + 1) #[.int .i64 0] 24 := ((T10.out.other (p := ⟨w.heap.size, 0, none⟩) (by show w.heap.size ≠ _; omega) (.int .i64 x)).other (p := ⟨w.heap.size + 1, 0, none⟩) (by show w.heap.size + 1 ≠ _; omega) (.int .i64 j)).set 0 (.int .i64 0)
      have d8 := k8.at 0 rfl
      have d9 := k9.at 0 rfl
      have d10 := k10.at 0 rfl
      generalize hWF : (((((w3.setCell ⟨w.heap.size, 0, none⟩ (.int .i64 x)).setCell ⟨w.heap.size + 1, 0, none⟩ (.int .i64 j)).setCell ⟨w.heap.size, 0, none⟩ (.int .i64 x)).setCell ⟨w.heap.size + 1, 0, none⟩ (.int .i64 j)).setCell ⟨w.heap.size + 1 + 1, 0, none⟩ (.int .i64 0)) = WF at *
      have e8 : WF.drew.cell? ⟨w.heap.size, 0, none⟩ = some (.int .i64 x) := d8
      have e9 : WF.drew.cell? ⟨w.heap.size + 1, 0, none⟩ = some (.int .i64 j) := d9
      have e10 : WF.drew.cell? ⟨w.heap.size + 1 + 1, 0, none⟩ = some (.int .i64 0) := d10
      simp [Leaves, settle, results, Tryd.results9, go_sem, d8, d9, d10]
      exact ⟨rfl, hpk.drew.then HG1.out HO.out, HX.out.1, HX.out.2⟩
    · have HE := Lib.hid he
      have hxy : x = 0 ∧ j = 0 := HZ.out he
      obtain ⟨rfl, rfl⟩ := hxy
      clear hth hp1 hp2 he
      refine leaves_cons (f := 18) (args := #[.pointer (some ⟨w.heap.size, 0, none⟩), .pointer (some ⟨w.heap.size + 1, 0, none⟩), .pointer (some ⟨w.heap.size + 1 + 1, 0, none⟩)]) (by simp) (by simp [go_sem]) ?_
      refine (put1_panicking ⟨w.heap.size, 0, none⟩ ⟨w.heap.size + 1, 0, none⟩ ⟨w.heap.size + 1 + 1, 0, none⟩ 0 0 0 e0 [] w3 (D8.out.at 0 rfl) (D9.out.at 0 rfl) (D10.out.at 0 rfl) (D8.out.free 0) (D9.out.free 0) (D10.out.free 0) (by simp) (by simp) (by simp)).mono ?_
      rintro e' u' w'' ⟨rfl, rfl, rfl⟩
      have hpk := (((Poked.of (w := w) TH3.out).drew.set (Nat.le_refl _) (by rw [HSZ.out]; omega) 0 (.int .i64 0)).set (b := w.heap.size + 1) (by omega) (by rw [HSZ.out]; omega) 0 (.int .i64 0)).set (b := w.heap.size + 1 + 1) (by omega) (by rw [HSZ.out]; omega) 0 (.int .i64 e0)
      have k8 : BlkOf (((w3.drew.setCell ⟨w.heap.size, 0, none⟩ (.int .i64 0)).setCell ⟨w.heap.size + 1, 0, none⟩ (.int .i64 0)).setCell ⟨w.heap.size + 1 + 1, 0, none⟩ (.int .i64 e0)) w.heap.size #[.int .i64 0] 3 := (((show BlkOf w3.drew _ _ _ from D8.out).set 0 (.int .i64 0)).other (p := ⟨w.heap.size + 1, 0, none⟩) (by show w.heap.size + 1 ≠ _; omega) (.int .i64 0)).other (p := ⟨w.heap.size + 1 + 1, 0, none⟩) (by show w.heap.size + 1 + 1 ≠ _; omega) (.int .i64 e0)
      have k9 : BlkOf (((w3.drew.setCell ⟨w.heap.size, 0, none⟩ (.int .i64 0)).setCell ⟨w.heap.size + 1, 0, none⟩ (.int .i64 0)).setCell ⟨w.heap.size + 1 + 1, 0, none⟩ (.int .i64 e0)) (w.heap.size + 1) #[.int .i64 0] 3 := (((show BlkOf w3.drew _ _ _ from D9.out).other (p := ⟨w.heap.size, 0, none⟩) (by show w.heap.size ≠ _; omega) (.int .i64 0)).set 0 (.int .i64 0)).other (p := ⟨w.heap.size + 1 + 1, 0, none⟩) (by show w.heap.size + 1 + 1 ≠ _; omega) (.int .i64 e0)
      have k10 : BlkOf (((w3.drew.setCell ⟨w.heap.size, 0, none⟩ (.int .i64 0)).setCell ⟨w.heap.size + 1, 0, none⟩ (.int .i64 0)).setCell ⟨w.heap.size + 1 + 1, 0, none⟩ (.int .i64 e0)) (w.heap.size + 1 + 1) #[.int .i64 e0] 24 := (((show BlkOf w3.drew _ _ _ from D10.out).other (p := ⟨w.heap.size, 0, none⟩) (by show w.heap.size ≠ _; omega) (.int .i64 0)).other (p := ⟨w.heap.size + 1, 0, none⟩) (by show w.heap.size + 1 ≠ _; omega) (.int .i64 0)).set 0 (.int .i64 e0)
      have d8 := k8.at 0 rfl
      have d9 := k9.at 0 rfl
      have d10 := k10.at 0 rfl
      generalize hWF : (((w3.drew.setCell ⟨w.heap.size, 0, none⟩ (.int .i64 0)).setCell ⟨w.heap.size + 1, 0, none⟩ (.int .i64 0)).setCell ⟨w.heap.size + 1 + 1, 0, none⟩ (.int .i64 e0)) = WF at *
      simp [Leaves, settle, results, Tryd.results9, go_sem, d8, d9, d10]
      exact ⟨rfl, hpk.then HG1.out HO.out, HX.out.1, HX.out.2⟩
  · have hrc : r = (0, 0, 2, S) := by
      rw [HR.out]; unfold putC; rw [← HOK.out, hk]; rfl
    clear hth
    rw [hrc]
    refine leaves_cons (f := 18) (args := #[.pointer (some ⟨w.heap.size, 0, none⟩), .pointer (some ⟨w.heap.size + 1, 0, none⟩), .pointer (some ⟨w.heap.size + 1 + 1, 0, none⟩)]) (by simp) (by simp [go_sem]) ?_
    refine (put1_panicking ⟨w.heap.size, 0, none⟩ ⟨w.heap.size + 1, 0, none⟩ ⟨w.heap.size + 1 + 1, 0, none⟩ 0 0 0 2 [] w2 (C8.out.at 0 rfl) (C9.out.at 0 rfl) (C10.out.at 0 rfl) (C8.out.free 0) (C9.out.free 0) (C10.out.free 0) (by simp) (by simp) (by simp)).mono ?_
    rintro e' u' w'' ⟨rfl, rfl, rfl⟩
    have hpk := (((Poked.of (w := w) TH.out).drew.set (Nat.le_refl _) (by rw [HSZ.out]; omega) 0 (.int .i64 0)).set (b := w.heap.size + 1) (by omega) (by rw [HSZ.out]; omega) 0 (.int .i64 0)).set (b := w.heap.size + 1 + 1) (by omega) (by rw [HSZ.out]; omega) 0 (.int .i64 2)
    have k8 : BlkOf (((w2.drew.setCell ⟨w.heap.size, 0, none⟩ (.int .i64 0)).setCell ⟨w.heap.size + 1, 0, none⟩ (.int .i64 0)).setCell ⟨w.heap.size + 1 + 1, 0, none⟩ (.int .i64 2)) w.heap.size #[.int .i64 0] 3 := (((show BlkOf w2.drew _ _ _ from C8.out).set 0 (.int .i64 0)).other (p := ⟨w.heap.size + 1, 0, none⟩) (by show w.heap.size + 1 ≠ _; omega) (.int .i64 0)).other (p := ⟨w.heap.size + 1 + 1, 0, none⟩) (by show w.heap.size + 1 + 1 ≠ _; omega) (.int .i64 2)
    have k9 : BlkOf (((w2.drew.setCell ⟨w.heap.size, 0, none⟩ (.int .i64 0)).setCell ⟨w.heap.size + 1, 0, none⟩ (.int .i64 0)).setCell ⟨w.heap.size + 1 + 1, 0, none⟩ (.int .i64 2)) (w.heap.size + 1) #[.int .i64 0] 3 := (((show BlkOf w2.drew _ _ _ from C9.out).other (p := ⟨w.heap.size, 0, none⟩) (by show w.heap.size ≠ _; omega) (.int .i64 0)).set 0 (.int .i64 0)).other (p := ⟨w.heap.size + 1 + 1, 0, none⟩) (by show w.heap.size + 1 + 1 ≠ _; omega) (.int .i64 2)
    have k10 : BlkOf (((w2.drew.setCell ⟨w.heap.size, 0, none⟩ (.int .i64 0)).setCell ⟨w.heap.size + 1, 0, none⟩ (.int .i64 0)).setCell ⟨w.heap.size + 1 + 1, 0, none⟩ (.int .i64 2)) (w.heap.size + 1 + 1) #[.int .i64 2] 24 := (((show BlkOf w2.drew _ _ _ from C10.out).other (p := ⟨w.heap.size, 0, none⟩) (by show w.heap.size ≠ _; omega) (.int .i64 0)).other (p := ⟨w.heap.size + 1, 0, none⟩) (by show w.heap.size + 1 ≠ _; omega) (.int .i64 0)).set 0 (.int .i64 2)
    have d8 := k8.at 0 rfl
    have d9 := k9.at 0 rfl
    have d10 := k10.at 0 rfl
    generalize hWF : (((w2.drew.setCell ⟨w.heap.size, 0, none⟩ (.int .i64 0)).setCell ⟨w.heap.size + 1, 0, none⟩ (.int .i64 0)).setCell ⟨w.heap.size + 1 + 1, 0, none⟩ (.int .i64 2)) = WF at *
    simp [Leaves, settle, results, Tryd.results9, go_sem, d8, d9, d10]
    exact ⟨rfl, hpk.then HG1.out HO.out, i64_zero, i64_zero⟩
end
end Go.Proofs.YtcbebikcfcidmaaDoor

namespace Go.Proofs.YtcbebikcfcidmaaDoor
open Go.RowKit

section
variable {w : World}

set_option maxRecDepth 100000 in
set_option maxHeartbeats 2000000 in
theorem zof_neg (n : Nat) (w : World) (hn : n ≤ 9223372036854775807) (hp : 0 < n) :
    Calls Tryd.prog 16 #[.int .i64 (-(n : Int))] w (fun e w' => ∃ x c, e = .returned (.agg #[.bool true, .slice x (nrow n).length c]) ∧ NRow w.heap.size w' (.slice x (nrow n).length c) (nrow n) ∧ Below w.heap.size w w') := by
  obtain ⟨W1, hW1⟩ : ∃ W1, W1 = w.alloc (.cells #[.bool false, .slice none 0 0] 33) := ⟨_, rfl⟩
  have b0 : BlkOf W1 w.heap.size #[.bool false, .slice none 0 0] 33 := by rw [hW1]; exact BlkOf.new w _ _
  have hbw : Below w.heap.size w W1 := by rw [hW1]; exact (Below.refl _ w).alloc (Nat.le_refl _) _
  have hsz : W1.heap.size = w.heap.size + 1 := by rw [hW1]; simp
  have HO := Lib.hid (of_any n W1 (by omega))
  have HB := Lib.hid b0
  have HBW := Lib.hid hbw
  have HSZ := Lib.hid hsz
  have h0 : (-(n : Int)) < 0 := by omega
  have h1 : -(-(n : Int)) = (n : Int) := by omega
  have h2 : decide (-(n : Int) < 0) = true := by simp; omega
  subst hW1
  clear b0 hbw hsz
  go_enter Tryd.func16, Tryd.ntmps16
  go_wp2_with (first | (go_at_call 17; refine HO.out.mono ?_) | fail)
  have hsz1 := HSZ.out
  rintro e w1 ⟨v, rfl, hr, hb1⟩
  refine NRow.by_form hr fun x c ev hr => ?_
  rw [ev]
  rw [hsz1] at hr
  have hbw1 : Below w.heap.size w w1 := HBW.out.trans (hb1.mono HBW.out.size)
  have b1 := HB.out.below hb1 (by rw [hsz1]; omega)
  have hz1 : w.heap.size + 1 ≤ w1.heap.size := by have := hb1.size; omega
  have c10 := b1.at 0 rfl
  have c11 := b1.at 1 rfl
  have z10 := b1.free
  have Q1 := Lib.hid ((b1.set 0 (.bool true)).set 1 (.slice x (nrow n).length c))
  have HX := Lib.hid (NRow.more (ownsRow_setCell_below (a := ⟨w.heap.size, 1, none⟩) (ownsRow_setCell_below (a := ⟨w.heap.size, 0, none⟩) hr (by show w.heap.size < _; omega) (.bool true)) (by show w.heap.size < _; omega) (.slice x (nrow n).length c)) (Nat.le_succ _))
  have HBF := Lib.hid ((hbw1.setCell (p := ⟨w.heap.size, 0, none⟩) (Nat.le_refl _) (.bool true)).setCell (p := ⟨w.heap.size, 1, none⟩) (Nat.le_refl _) (.slice x (nrow n).length c))
  clear hr ev
  go_wp2_with fail
  refine post_cell rfl (g := w.heap.size) rfl Q1.out Tryd.underlying33 rfl (by kernel_rfl) ?_
  exact ⟨x, c, rfl, HX.out, HBF.out⟩

set_option maxRecDepth 100000 in
set_option maxHeartbeats 2000000 in
theorem fof_neg (n : Nat) (w : World) (hn : n ≤ 9223372036854775807) (hp : 0 < n) :
    Calls Tryd.prog 8 #[.int .i64 (-(n : Int))] w (fun e w' => ∃ v, e = .returned v ∧ FrRow w.heap.size w' v true n 1 ∧ Below w.heap.size w w') := by
  obtain ⟨W1, hW1⟩ : ∃ W1, W1 = w.alloc (.cells #[.bool false, .slice none 0 0, .slice none 0 0] 35) := ⟨_, rfl⟩
  have b0 : BlkOf W1 w.heap.size #[.bool false, .slice none 0 0, .slice none 0 0] 35 := by rw [hW1]; exact BlkOf.new w _ _
  have hbw : Below w.heap.size w W1 := by rw [hW1]; exact (Below.refl _ w).alloc (Nat.le_refl _) _
  have hsz : W1.heap.size = w.heap.size + 1 := by rw [hW1]; simp
  have HO := Lib.hid (zof_neg n W1 hn hp)
  have HB := Lib.hid b0
  have HBW := Lib.hid hbw
  have HSZ := Lib.hid hsz
  subst hW1
  clear b0 hbw hsz
  go_enter Tryd.func8, Tryd.ntmps8
  go_wp2_with (first | (go_at_call 16; refine HO.out.mono ?_) | fail)
  have hsz1 := HSZ.out
  rintro e w1 ⟨x, c, rfl, hr, hb1⟩
  rw [hsz1] at hr
  have hbw1 : Below w.heap.size w w1 := HBW.out.trans (hb1.mono HBW.out.size)
  have b1 := HB.out.below hb1 (by rw [hsz1]; omega)
  have hz1 : w.heap.size + 1 ≤ w1.heap.size := by have := hb1.size; omega
  have HO2 := Lib.hid (of_any 1 w1 (by omega))
  go_wp2_with (first | (go_at_call 17; refine HO2.out.mono ?_) | fail)
  rintro e w2 ⟨v, rfl, hr2, hb2⟩
  have hr' := hr.below hb2 (Nat.le_refl _)
  have hr2' := hr2.more hz1
  refine NRow.by_form hr2' fun y c2 ev hr2 => ?_
  rw [ev]
  have hbw2 : Below w.heap.size w w2 := hbw1.trans (hb2.mono hbw1.size)
  have b2 := b1.below hb2 (by omega)
  have hz2 : w.heap.size + 1 ≤ w2.heap.size := by have := hb2.size; omega
  have c10 := b2.at 0 rfl
  have c11 := b2.at 1 rfl
  have c12 := b2.at 2 rfl
  have z10 := b2.free
  have Q1 := Lib.hid (((b2.set 0 (.bool true)).set 1 (.slice x (nrow n).length c)).set 2 (.slice y (nrow 1).length c2))
  have hrow : ∀ {v : Value} {l : List Nat}, NRow (w.heap.size + 1) w2 v l → NRow w.heap.size (((w2.setCell ⟨w.heap.size, 0, none⟩ (.bool true)).setCell ⟨w.heap.size, 1, none⟩ (.slice x (nrow n).length c)).setCell ⟨w.heap.size, 2, none⟩ (.slice y (nrow 1).length c2)) v l := fun hx =>
    NRow.more (ownsRow_setCell_below (a := ⟨w.heap.size, 2, none⟩) (ownsRow_setCell_below (a := ⟨w.heap.size, 1, none⟩) (ownsRow_setCell_below (a := ⟨w.heap.size, 0, none⟩) hx (by show w.heap.size < _; omega) _) (by show w.heap.size < _; omega) _) (by show w.heap.size < _; omega) _) (Nat.le_succ _)
  have HX := Lib.hid (hrow hr')
  have HY := Lib.hid (hrow hr2)
  have HBF := Lib.hid (((hbw2.setCell (p := ⟨w.heap.size, 0, none⟩) (Nat.le_refl _) (.bool true)).setCell (p := ⟨w.heap.size, 1, none⟩) (Nat.le_refl _) (.slice x (nrow n).length c)).setCell (p := ⟨w.heap.size, 2, none⟩) (Nat.le_refl _) (.slice y (nrow 1).length c2))
  clear hr hr' hr2 hr2' ev hrow
  go_wp2_with fail
  refine post_cell rfl (g := w.heap.size) rfl Q1.out Tryd.underlying35 rfl (by kernel_rfl) ?_
  exact ⟨_, rfl, ⟨_, _, _, _, rfl, HX.out, HY.out⟩, HBF.out⟩
end
end Go.Proofs.YtcbebikcfcidmaaDoor

namespace Go.Proofs.YtcbebikcfcidmaaDoor

/-- A step that is asked for. -/
def askS (S : MkS) (x : Nd) : Int × Int × MkS := if stepB x (S.l.length : Int) (S.pars : Int) = true then putS S x else (0, 2, S)
theorem oneS_ask {op : Nat} (h : fld op 0 = 3 ∧ fld op 1 = 0 ∧ fld op 2 = 0) (S : MkS) (a : Int) : oneS S op a = askS S (bareNd op a 0) := by
  unfold oneS ofS askS
  by_cases hs : stepB (bareNd op a 0) (S.l.length : Int) (S.pars : Int) = true
  · rw [if_pos ⟨h, hs⟩, if_pos hs]
  · rw [if_neg (fun k => hs k.2), if_neg hs]
theorem twoS_ask {op : Nat} (h : fld op 0 = 3 ∧ fld op 1 = 3 ∧ fld op 2 = 0) (S : MkS) (a b : Int) : twoS S op a b = askS S (bareNd op a b) := by
  unfold twoS ofS askS
  by_cases hs : stepB (bareNd op a b) (S.l.length : Int) (S.pars : Int) = true
  · rw [if_pos ⟨h, hs⟩, if_pos hs]
  · rw [if_neg (fun k => hs k.2), if_neg hs]
theorem numS_ask {x : Fr} (h : okF (lv x.m) (lv x.d) = true) (S : MkS) : numS S x = askS S (numNd x) := by
  unfold numS askS
  rw [if_pos h, if_pos (numNd_step h _ _)]

/-- A row of asks. -/
inductive Prg where
  | done (x j : Int)
  | put (x : Nd) (k : Int → Prg)
def run : Prg → MkS → Int × Int × Int × MkS
  | .done x j, S => (x, j, 0, S)
  | .put x k, S => endS (askS S x) fun i T => run (k i) T

theorem endS_runL_cons {g : Int → MkS → Int × Int × MkS} {gs : List (Int → MkS → Int × Int × MkS)} {i : Int} {S : MkS} {f : Int → MkS → Int × Int × Int × MkS} :
    endS (runL (g :: gs) i S) f = endS (g i S) fun j T => endS (runL gs j T) f := by
  show endS (if (g i S).2.1 = 0 then runL gs (g i S).1 (g i S).2.2 else g i S) f = _
  by_cases h : (g i S).2.1 = 0
  · rw [if_pos h]
    show _ = if (g i S).2.1 = 0 then _ else _
    rw [if_pos h]
  · rw [if_neg h]
    show (if (g i S).2.1 = 0 then _ else _) = if (g i S).2.1 = 0 then _ else _
    rw [if_neg h, if_neg h]
theorem endS_runL_nil {i : Int} {S : MkS} {f : Int → MkS → Int × Int × Int × MkS} : endS (runL [] i S) f = f i S := rfl
theorem endS_twice {i : Int} {S : MkS} {f : Int → MkS → Int × Int × Int × MkS} : endS (twiceS i S) f = endS (numS S (frOf 2)) fun t T => endS (twoS T 5 t i) f := by
  unfold twiceS
  by_cases h : (numS S (frOf 2)).2.1 = 0
  · rw [if_pos h]
    show _ = if (numS S (frOf 2)).2.1 = 0 then _ else _
    rw [if_pos h]
  · rw [if_neg h]
    show (if (numS S (frOf 2)).2.1 = 0 then _ else _) = if (numS S (frOf 2)).2.1 = 0 then _ else _
    rw [if_neg h, if_neg h]

/-- The chapter's table. -/
def bothP (u l h : Int) : Prg :=
  .put (bareNd 4 h l) fun w => .put (numNd (frOf 1)) fun one => .put (bareNd 7 u 0) fun n => .put (bareNd 8 n 0) fun p => .put (bareNd 3 one p) fun d => .put (bareNd 6 one d) fun s => .put (bareNd 5 w s) fun q => .put (bareNd 3 l q) fun x =>
  .put (bareNd 9 w 0) fun lw => .put (bareNd 4 lw u) fun less => .put (bareNd 9 d 0) fun ld => .put (numNd (frOf 2)) fun t => .put (bareNd 5 t ld) fun tw => .put (bareNd 4 less tw) fun j => .done x j
def chartP (u l h : Int) : Prg :=
  if l = -1 then
    if h = -1 then .put (numNd (frOf 0)) fun j => .done u j
    else .put (bareNd 8 u 0) fun e => .put (bareNd 4 h e) fun x => .done x u
  else if h = -1 then .put (bareNd 8 u 0) fun e => .put (bareNd 3 l e) fun x => .done x u
  else bothP u l h
theorem chartS_run (S : MkS) (u l h : Int) : chartS S u l h = run (chartP u l h) S := by
  unfold chartS chartP
  by_cases h1 : l = -1
  · rw [if_pos h1, if_pos h1]
    by_cases h2 : h = -1
    · rw [if_pos h2, if_pos h2, numS_ask (by decide)]; rfl
    · rw [if_neg h2, if_neg h2]
      simp only [endS_runL_cons, endS_runL_nil, oneS_ask (op := 8) (by decide), twoS_ask (op := 4) (by decide)]
      rfl
  · rw [if_neg h1, if_neg h1]
    by_cases h2 : h = -1
    · rw [if_pos h2, if_pos h2]
      simp only [endS_runL_cons, endS_runL_nil, oneS_ask (op := 8) (by decide), twoS_ask (op := 3) (by decide)]
      rfl
    · rw [if_neg h2, if_neg h2]
      unfold btw1 btw2 btw3 btw4 btw5 btw6
      simp only [endS_runL_cons, endS_runL_nil, endS_twice, oneS_ask (op := 7) (by decide), oneS_ask (op := 8) (by decide), oneS_ask (op := 9) (by decide), twoS_ask (op := 3) (by decide), twoS_ask (op := 4) (by decide), twoS_ask (op := 5) (by decide), twoS_ask (op := 6) (by decide), numS_ask (x := frOf 1) (by decide), numS_ask (x := frOf 2) (by decide)]
      rfl

/-- What is there is found where it was. -/
theorem kyAt_append {L M : List Ky} {k : Ky} {i : Nat} (h : kyAt L k = some i) : kyAt (L ++ M) k = some i := by
  unfold kyAt at h ⊢
  rw [List.findIdx?_append, h]
  rfl
theorem kyAt_last {L : List Ky} {k : Ky} (h : kyAt L k = none) : kyAt (L ++ [k]) k = some L.length := by
  unfold kyAt at h ⊢
  rw [List.findIdx?_append, h]
  simp
theorem isB_more {f : Nat} {a n n' p : Int} (h : isB f a n p = true) (hn : n ≤ n') : isB f a n' p = true := by
  unfold isB at *
  split at h <;> simp_all <;> omega
theorem stepB_long {x : Nd} {n n' p : Int} (h : stepB x n p = true) (hn : n ≤ n') : stepB x n' p = true := by
  unfold stepB at *
  simp only [Bool.and_eq_true] at *
  exact ⟨h.1, isB_more h.2.1 hn, isB_more h.2.2.1 hn, h.2.2.2⟩

/-- What an ask that is answered leaves: the step has its place there, and is found again. -/
structure Put1 (S : MkS) (x : Nd) (i : Int) (T : MkS) : Prop where
  step : stepB x (S.l.length : Int) (S.pars : Int) = true
  at_ : ∃ n : Nat, i = (n : Int) ∧ n < T.l.length ∧ kyAt (T.l.map keyN) (keyN x) = some n
  cases : T = S ∨ (kyAt (S.l.map keyN) (keyN x) = none ∧ i = (S.l.length : Int) ∧ T = { S with l := S.l ++ [x] } ∧ S.l.length ≠ S.budget)
theorem ask_put {S T : MkS} {x : Nd} {i : Int} (h : askS S x = (i, 0, T)) : Put1 S x i T := by
  unfold askS at h
  split at h
  · rename_i hs
    unfold putS at h
    split at h
    · rename_i n hn
      simp at h
      obtain ⟨rfl, rfl⟩ := h
      refine ⟨hs, ⟨n, rfl, ?_, hn⟩, .inl rfl⟩
      have := kyAt_lt hn
      rwa [List.length_map] at this
    · rename_i hn
      split at h
      · simp at h
      · rename_i hf
        simp at h
        obtain ⟨rfl, rfl⟩ := h
        refine ⟨hs, ⟨S.l.length, rfl, by simp, ?_⟩, .inr ⟨hn, rfl, rfl, hf⟩⟩
        have := kyAt_last hn
        rw [List.length_map] at this
        simpa using this
  · simp at h
theorem run_put {S : MkS} {x : Nd} {k : Int → Prg} {a b : Int} {T : MkS} (h : run (.put x k) S = (a, b, 0, T)) : ∃ i U, askS S x = (i, 0, U) ∧ run (k i) U = (a, b, 0, T) := by
  unfold run endS at h
  split at h
  · rename_i he
    refine ⟨(askS S x).1, (askS S x).2.2, ?_, h⟩
    rw [← he]
  · rename_i he
    simp at h
    exact absurd h.2.2.1 he
/-- It only grows. -/
theorem run_grows : ∀ {p : Prg} {S T : MkS} {a b : Int}, run p S = (a, b, 0, T) → (∃ M, T.l = S.l ++ M) ∧ T.pars = S.pars ∧ T.budget = S.budget
  | .done _ _, S, T, a, b, h => by
    simp [run] at h
    obtain ⟨_, _, rfl⟩ := h
    exact ⟨⟨[], by simp⟩, rfl, rfl⟩
  | .put x k, S, T, a, b, h => by
    obtain ⟨i, U, h1, h2⟩ := run_put h
    obtain ⟨⟨M, hM⟩, hp, hb⟩ := run_grows h2
    rcases (ask_put h1).cases with rfl | ⟨_, _, rfl, _⟩
    · exact ⟨⟨M, hM⟩, hp, hb⟩
    · exact ⟨⟨x :: M, by rw [hM]; simp⟩, hp, hb⟩
/-- Told again of a maker that has all of it: the same, and nothing more is made. -/
theorem run_again : ∀ {p : Prg} {S T U : MkS} {a b : Int}, run p S = (a, b, 0, T) → (∃ M, U.l = T.l ++ M) → U.pars = T.pars → run p U = (a, b, 0, U)
  | .done _ _, S, T, U, a, b, h, _, _ => by
    simp [run] at h
    obtain ⟨rfl, rfl, _⟩ := h
    rfl
  | .put x k, S, T, U, a, b, h, ⟨M, hM⟩, hp => by
    obtain ⟨i, V, h1, h2⟩ := run_put h
    obtain ⟨⟨M2, hM2⟩, hp2, _⟩ := run_grows h2
    have hq := ask_put h1
    obtain ⟨n, rfl, hn, hk⟩ := hq.at_
    have hVS : S.l.length ≤ V.l.length ∧ V.pars = S.pars := by
      rcases hq.cases with rfl | ⟨_, _, rfl, _⟩
      · exact ⟨Nat.le_refl _, rfl⟩
      · exact ⟨by simp, rfl⟩
    have hUl : U.l = V.l ++ (M2 ++ M) := by rw [hM, hM2, List.append_assoc]
    have ha : askS U x = ((n : Int), 0, U) := by
      unfold askS
      rw [if_pos (by
        rw [hp, hp2, hVS.2]
        exact stepB_long hq.step (by rw [hUl, List.length_append]; omega))]
      unfold putS
      rw [hUl, List.map_append, kyAt_append hk]
    show endS (askS U x) _ = _
    rw [ha]
    show run (k n) U = _
    exact run_again h2 ⟨M, hM⟩ hp
/-- With any budget that is enough. -/
theorem run_enough : ∀ {p : Prg} {S T : MkS} {a b : Int} {B : Nat}, run p S = (a, b, 0, T) → T.l.length ≤ B → run p { S with budget := B } = (a, b, 0, { T with budget := B })
  | .done _ _, S, T, a, b, B, h, _ => by
    simp [run] at h
    obtain ⟨rfl, rfl, rfl⟩ := h
    rfl
  | .put x k, S, T, a, b, B, h, hB => by
    obtain ⟨i, V, h1, h2⟩ := run_put h
    obtain ⟨⟨M2, hM2⟩, _, _⟩ := run_grows h2
    have hq := ask_put h1
    have ha : askS { S with budget := B } x = (i, 0, { V with budget := B }) := by
      unfold askS
      rw [if_pos (show stepB x (S.l.length : Int) (S.pars : Int) = true from hq.step)]
      rcases hq.cases with rfl | ⟨hk, rfl, rfl, hf⟩
      · obtain ⟨n, rfl, hn, hk⟩ := hq.at_
        unfold putS
        rw [hk]
      · unfold putS
        dsimp only
        rw [hk]
        have : S.l.length ≠ B := by
          rw [hM2] at hB
          simp at hB
          omega
        simp only [if_neg this]
    show endS (askS { S with budget := B } x) _ = _
    rw [ha]
    show run (k i) { V with budget := B } = _
    exact run_enough h2 hB
/-- With one that is not: it is told that there is no more room. -/
theorem run_short : ∀ {p : Prg} {S T : MkS} {a b : Int} {B : Nat}, run p S = (a, b, 0, T) → S.l.length ≤ B → B < T.l.length → (run p { S with budget := B }).2.2.1 = 171
  | .done _ _, S, T, a, b, B, h, h1, h2 => by
    simp [run] at h
    obtain ⟨_, _, rfl⟩ := h
    omega
  | .put x k, S, T, a, b, B, h, hS, hB => by
    obtain ⟨i, V, h1, h2⟩ := run_put h
    have hq := ask_put h1
    show (endS (askS { S with budget := B } x) _).2.2.1 = _
    rcases hq.cases with rfl | ⟨hk, rfl, rfl, hf⟩
    · obtain ⟨n, rfl, hn, hk⟩ := hq.at_
      have ha : askS { V with budget := B } x = ((n : Int), 0, { V with budget := B }) := by
        unfold askS
        rw [if_pos (show stepB x (V.l.length : Int) (V.pars : Int) = true from hq.step)]
        unfold putS
        dsimp only
        rw [hk]
      rw [ha]
      exact run_short h2 hS hB
    · by_cases hSB : S.l.length = B
      · have ha : askS { S with budget := B } x = (0, 171, { S with budget := B }) := by
          unfold askS
          rw [if_pos (show stepB x (S.l.length : Int) (S.pars : Int) = true from hq.step)]
          unfold putS
          dsimp only
          rw [hk]
          simp only [if_pos hSB]
        rw [ha]
        rfl
      · have ha : askS { S with budget := B } x = ((S.l.length : Int), 0, { S with budget := B, l := S.l ++ [x] }) := by
          unfold askS
          rw [if_pos (show stepB x (S.l.length : Int) (S.pars : Int) = true from hq.step)]
          unfold putS
          dsimp only
          rw [hk]
          simp only [if_neg hSB]
        rw [ha]
        exact run_short (S := { S with l := S.l ++ [x] }) h2 (by simp; omega) hB

/-- Asks that may be, d at most, of a maker that has n steps at least. -/
def Fit (pars : Nat) : Nat → Nat → Prg → Prop
  | _, _, .done _ _ => True
  | 0, _, .put _ _ => False
  | d + 1, n, .put x k => stepB x (n : Int) (pars : Int) = true ∧ ∀ (i n' : Nat), n ≤ n' → i < n' → Fit pars d n' (k (i : Int))
theorem fit_run {pars : Nat} : ∀ {p : Prg} {d : Nat} {S : MkS}, Fit pars d S.l.length p → S.pars = pars → S.l.length + d ≤ S.budget → ∃ a b T, run p S = (a, b, 0, T) ∧ T.l.length ≤ S.l.length + d
  | .done a b, d, S, _, _, _ => ⟨a, b, S, rfl, by omega⟩
  | .put x k, 0, S, h, _, _ => h.elim
  | .put x k, d + 1, S, h, hp, hB => by
    obtain ⟨hs, hk⟩ := h
    have hst : stepB x (S.l.length : Int) (S.pars : Int) = true := by rw [hp]; exact hs
    cases hky : kyAt (S.l.map keyN) (keyN x) with
    | some n =>
      have hn : n < S.l.length := by have := kyAt_lt hky; rwa [List.length_map] at this
      have ha : askS S x = ((n : Int), 0, S) := by
        unfold askS
        rw [if_pos hst]
        unfold putS
        rw [hky]
      obtain ⟨a, b, T, hr, hl⟩ := fit_run (S := S) (hk n S.l.length (Nat.le_refl _) hn) hp (by omega)
      exact ⟨a, b, T, by show endS (askS S x) _ = _; rw [ha]; exact hr, by omega⟩
    | none =>
      have ha : askS S x = ((S.l.length : Int), 0, { S with l := S.l ++ [x] }) := by
        unfold askS
        rw [if_pos hst]
        unfold putS
        rw [hky]
        simp only [if_neg (show ¬ S.l.length = S.budget by omega)]
      have hlen : (S.l ++ [x]).length = S.l.length + 1 := by simp
      obtain ⟨a, b, T, hr, hl⟩ := fit_run (S := { S with l := S.l ++ [x] }) (d := d) (by
        show Fit pars d (S.l ++ [x]).length _
        rw [hlen]
        exact hk S.l.length (S.l.length + 1) (by omega) (by omega)) hp (by show (S.l ++ [x]).length + d ≤ S.budget; omega)
      refine ⟨a, b, T, by show endS (askS S x) _ = _; rw [ha]; exact hr, ?_⟩
      have : T.l.length ≤ (S.l ++ [x]).length + d := hl
      omega
end Go.Proofs.YtcbebikcfcidmaaDoor

namespace Go.Proofs.YtcbebikcfcidmaaDoor

def frI (v : Int) : Fr := ⟨decide (v < 0), nrow v.natAbs, nrow 1⟩
theorem short_small {n : Nat} (h : n ≤ 1000) : Short n := Nat.le_trans (nrow_length_le (k := 1) (show n < 18446744073709551616 by omega)) (by decide)
theorem ok_frI {v : Int} (h : v.natAbs ≤ 1000) : okF (lv (frI v).m) (lv (frI v).d) = true := by
  show okF (lv (nrow v.natAbs)) (lv (nrow 1)) = true
  rw [lv_nrow, lv_nrow]
  exact okF_iff.2 ⟨short_small h, short_one, by decide⟩
def madeS (S : MkS) (low high : Int) (a b : Bool) : Int × Int × Int × MkS :=
  if (numS (parS S).2.2 (frI low)).2.1 = 0 ∧ (numS (numS (parS S).2.2 (frI low)).2.2 (frI high)).2.1 = 0 then
    putC (numS (numS (parS S).2.2 (frI low)).2.2 (frI high)).2.2 0 (if a then (numS (parS S).2.2 (frI low)).1 else -1) (if b then (numS (numS (parS S).2.2 (frI low)).2.2 (frI high)).1 else -1)
  else (0, 0, 171, (numS (numS (parS S).2.2 (frI low)).2.2 (frI high)).2.2)
def madeP (low high : Int) (a b : Bool) : Prg := .put (numNd (frI low)) fun i => .put (numNd (frI high)) fun j => chartP 0 (if a then i else -1) (if b then j else -1)
def start (B : Nat) : MkS := ⟨B, 1, [bareNd 2 0 0]⟩
theorem par_start {B : Nat} (h : 1 ≤ B) : parS ⟨B, 0, []⟩ = (0, 0, start B) := by
  unfold parS
  dsimp only
  rw [if_neg (by decide), if_neg (by simp; omega)]
  rfl
theorem num_err {S : MkS} {x : Fr} (h : okF (lv x.m) (lv x.d) = true) : (numS S x).2.1 = 0 ∨ (numS S x).2.1 = 171 := by
  unfold numS
  rw [if_pos h]
  unfold putS
  split
  · exact .inl rfl
  · split
    · exact .inr rfl
    · exact .inl rfl
theorem endS_fst {r : Int × Int × MkS} {f : Int → MkS → Int × Int × Int × MkS} (h : r.2.1 = 0) : endS r f = f r.1 r.2.2 := if_pos h
theorem endS_err {r : Int × Int × MkS} {f : Int → MkS → Int × Int × Int × MkS} (h : ¬ r.2.1 = 0) : endS r f = (0, 0, r.2.1, r.2.2) := if_neg h
theorem ask_back {S : MkS} {x : Nd} {i : Int} {T : MkS} (h : askS S x = (i, 0, T)) : (0 ≤ i ∧ i < (T.l.length : Int)) ∧ S.l.length ≤ T.l.length := by
  have hq := ask_put h
  obtain ⟨n, rfl, hn, _⟩ := hq.at_
  refine ⟨⟨by omega, by omega⟩, ?_⟩
  rcases hq.cases with rfl | ⟨_, _, rfl, _⟩
  · exact Nat.le_refl _
  · simp
theorem putC_chart {S : MkS} {l h : Int} (h1 : 1 ≤ S.l.length) (hl : -1 ≤ l) (hh : -1 ≤ h) : putC S 0 l h = run (chartP 0 l h) S := by
  unfold putC
  rw [if_pos, chartS_run]
  unfold askB
  simp only [Bool.and_eq_true, decide_eq_true_eq]
  exact ⟨⟨⟨by omega, by omega⟩, hl⟩, hh⟩
theorem made_run {B : Nat} {low high : Int} {a b : Bool} (hB : 1 ≤ B) (h1 : low.natAbs ≤ 1000) (h2 : high.natAbs ≤ 1000) :
    ∃ U, madeS ⟨B, 0, []⟩ low high a b = ((run (madeP low high a b) (start B)).1, (run (madeP low high a b) (start B)).2.1, (run (madeP low high a b) (start B)).2.2.1, U) ∧ ((run (madeP low high a b) (start B)).2.2.1 = 0 → U = (run (madeP low high a b) (start B)).2.2.2) := by
  unfold madeS madeP
  rw [par_start hB]
  show ∃ U, (if (numS (start B) (frI low)).2.1 = 0 ∧ (numS (numS (start B) (frI low)).2.2 (frI high)).2.1 = 0 then _ else _) = _ ∧ _
  have e1 := num_err (S := start B) (ok_frI h1)
  have e2 := num_err (S := (numS (start B) (frI low)).2.2) (ok_frI h2)
  have r0 : ∀ k : Int → Prg, run (.put (numNd (frI low)) k) (start B) = endS (numS (start B) (frI low)) fun i T => run (k i) T := fun k => by rw [numS_ask (ok_frI h1)]; rfl
  have r1 : ∀ (k : Int → Prg) (T : MkS), run (.put (numNd (frI high)) k) T = endS (numS T (frI high)) fun i T => run (k i) T := fun k T => by rw [numS_ask (ok_frI h2)]; rfl
  rw [r0]
  by_cases q1 : (numS (start B) (frI low)).2.1 = 0
  · rw [endS_fst q1, r1]
    by_cases q2 : (numS (numS (start B) (frI low)).2.2 (frI high)).2.1 = 0
    · rw [endS_fst q2, if_pos ⟨q1, q2⟩]
      have a1 : askS (start B) (numNd (frI low)) = ((numS (start B) (frI low)).1, 0, (numS (start B) (frI low)).2.2) := by rw [← numS_ask (ok_frI h1)]; rw [← q1]
      have a2 : askS (numS (start B) (frI low)).2.2 (numNd (frI high)) = ((numS (numS (start B) (frI low)).2.2 (frI high)).1, 0, (numS (numS (start B) (frI low)).2.2 (frI high)).2.2) := by rw [← numS_ask (ok_frI h2)]; rw [← q2]
      have b1 := ask_back a1
      have b2 := ask_back a2
      have hs : (start B).l.length = 1 := rfl
      have hlen : 1 ≤ (numS (numS (start B) (frI low)).2.2 (frI high)).2.2.l.length := by omega
      have hl : -1 ≤ (if a = true then (numS (start B) (frI low)).1 else -1) := by
        cases a
        · exact Int.le_refl _
        · exact Int.le_trans (by decide) b1.1.1
      have hh : -1 ≤ (if b = true then (numS (numS (start B) (frI low)).2.2 (frI high)).1 else -1) := by
        cases b
        · exact Int.le_refl _
        · exact Int.le_trans (by decide) b2.1.1
      rw [putC_chart hlen hl hh]
      exact ⟨_, rfl, fun _ => rfl⟩
    · rw [endS_err q2, if_neg (fun h => q2 h.2)]
      have := e2.resolve_left q2
      dsimp only
      rw [this]
      exact ⟨_, rfl, fun h => absurd h (by decide)⟩
  · rw [endS_err q1, if_neg (fun h => q1 h.1)]
    have := e1.resolve_left q1
    dsimp only
    rw [this]
    exact ⟨_, rfl, fun h => absurd h (by decide)⟩

theorem one_step {op : Nat} {a n p : Int} (h : fld op 0 = 3 ∧ fld op 1 = 0 ∧ fld op 2 = 0) (h0 : 0 ≤ a) (h1 : a < n) : stepB (bareNd op a 0) n p = true := by
  unfold stepB bareNd
  dsimp only
  rw [h.1, h.2.1, h.2.2]
  unfold isB writtenB sameB
  simp
  omega
theorem two_step {op : Nat} {a b n p : Int} (h : fld op 0 = 3 ∧ fld op 1 = 3 ∧ fld op 2 = 0) (h0 : 0 ≤ a) (h1 : a < n) (h2 : 0 ≤ b) (h3 : b < n) : stepB (bareNd op a b) n p = true := by
  unfold stepB bareNd
  dsimp only
  rw [h.1, h.2.1, h.2.2]
  unfold isB writtenB sameB
  simp
  omega
theorem chart_fit {l h : Int} {n2 : Nat} (hl : l = -1 ∨ 0 ≤ l ∧ l < n2) (hh : h = -1 ∨ 0 ≤ h ∧ h < n2) (h0 : 0 < n2) : Fit 1 14 n2 (chartP 0 l h) := by
  unfold chartP
  by_cases e1 : l = -1
  · rw [if_pos e1]
    by_cases e2 : h = -1
    · rw [if_pos e2]
      exact ⟨numNd_step (x := frOf 0) (by decide) _ _, fun _ _ _ _ => trivial⟩
    · rw [if_neg e2]
      have hh := hh.resolve_left e2
      exact ⟨one_step (by decide) (by omega) (by omega), fun e n3 _ he => ⟨two_step (by decide) (by omega) (by omega) (by omega) (by omega), fun _ _ _ _ => trivial⟩⟩
  · rw [if_neg e1]
    have hl := hl.resolve_left e1
    by_cases e2 : h = -1
    · rw [if_pos e2]
      exact ⟨one_step (by decide) (by omega) (by omega), fun e n3 _ he => ⟨two_step (by decide) (by omega) (by omega) (by omega) (by omega), fun _ _ _ _ => trivial⟩⟩
    · rw [if_neg e2]
      have hh := hh.resolve_left e2
      refine ⟨two_step (by decide) (by omega) (by omega) (by omega) (by omega), fun w m1 k1 hw => ⟨numNd_step (x := frOf 1) (by decide) _ _, fun one m2 k2 ho => ⟨one_step (by decide) (by omega) (by omega), fun n m3 k3 hn => ⟨one_step (by decide) (by omega) (by omega), fun p m4 k4 hp =>
        ⟨two_step (by decide) (by omega) (by omega) (by omega) (by omega), fun d m5 k5 hd => ⟨two_step (by decide) (by omega) (by omega) (by omega) (by omega), fun s m6 k6 hs => ⟨two_step (by decide) (by omega) (by omega) (by omega) (by omega), fun q m7 k7 hq => ⟨two_step (by decide) (by omega) (by omega) (by omega) (by omega), fun x m8 k8 hx =>
        ⟨one_step (by decide) (by omega) (by omega), fun lw m9 k9 hlw => ⟨two_step (by decide) (by omega) (by omega) (by omega) (by omega), fun less m10 k10 hle => ⟨one_step (by decide) (by omega) (by omega), fun ld m11 k11 hld => ⟨numNd_step (x := frOf 2) (by decide) _ _, fun t m12 k12 ht =>
        ⟨two_step (by decide) (by omega) (by omega) (by omega) (by omega), fun tw m13 k13 htw => ⟨two_step (by decide) (by omega) (by omega) (by omega) (by omega), fun _ _ _ _ => trivial⟩⟩⟩⟩⟩⟩⟩⟩⟩⟩⟩⟩⟩⟩
theorem made_fit {low high : Int} {a b : Bool} (h1 : low.natAbs ≤ 1000) (h2 : high.natAbs ≤ 1000) : Fit 1 16 1 (madeP low high a b) := by
  refine ⟨numNd_step (ok_frI h1) _ _, fun i n1 hn1 hi => ⟨numNd_step (ok_frI h2) _ _, fun j n2 hn2 hj => ?_⟩⟩
  refine chart_fit (l := if a then (i : Int) else -1) (h := if b then (j : Int) else -1) ?_ ?_ (by omega)
  · cases a
    · exact .inl rfl
    · exact .inr ⟨by simp, by simp; omega⟩
  · cases b
    · exact .inl rfl
    · exact .inr ⟨by simp, by simp; omega⟩

/-- An ask told again. -/
theorem ask_again {S V U : MkS} {x : Nd} {i : Int} (h : askS S x = (i, 0, V)) (hU : ∃ M, U.l = V.l ++ M) (hp : U.pars = V.pars) : askS U x = (i, 0, U) := by
  have h1 : run (.put x fun i => .done i 0) S = (i, 0, 0, V) := by
    show endS (askS S x) _ = _
    rw [h]; rfl
  obtain ⟨i', U', h2, h3⟩ := run_put (run_again h1 hU hp)
  simp [run] at h3
  obtain ⟨rfl, rfl⟩ := h3
  exact h2
/-- All that the law asks. -/
theorem made_facts {low high : Int} {a b : Bool} (h1 : low.natAbs ≤ 1000) (h2 : high.natAbs ≤ 1000) :
    ∃ (x j : Int) (T : MkS) (i1 i2 : Int) (U : MkS), 2 ≤ T.l.length ∧ T.l.length ≤ 17 ∧ madeS ⟨100, 0, []⟩ low high a b = (x, j, 0, T) ∧ numS T (frI low) = (i1, 0, T) ∧ numS T (frI high) = (i2, 0, T) ∧
      putC T 0 (if a then i1 else -1) (if b then i2 else -1) = (x, j, 0, T) ∧ madeS ⟨T.l.length, 0, []⟩ low high a b = (x, j, 0, U) ∧ (madeS ⟨T.l.length - 1, 0, []⟩ low high a b).2.2.1 = 171 := by
  obtain ⟨x, j, T, hr, hl⟩ := fit_run (S := start 100) (made_fit (a := a) (b := b) h1 h2) rfl (by decide)
  have hl17 : T.l.length ≤ 17 := hl
  obtain ⟨i1, U1, q1, hr1⟩ := run_put hr
  obtain ⟨i2, U2, q2, hr2⟩ := run_put hr1
  obtain ⟨⟨M, hM⟩, hp, _⟩ := run_grows hr2
  have c1 := ask_back q1
  have c2 := ask_back q2
  have hs : (start 100).l.length = 1 := rfl
  have hU1 : U1.l.length = 2 := by
    rcases (ask_put q1).cases with rfl | ⟨_, _, rfl, _⟩
    · exfalso
      obtain ⟨n, _, hn, hk⟩ := (ask_put q1).at_
      have : kyAt ((start 100).l.map keyN) (keyN (numNd (frI low))) = none := by
        unfold kyAt
        rw [List.findIdx?_eq_none_iff]
        intro k hk
        simp [start] at hk
        subst hk
        simp only [beq_eq_false_iff_ne, ne_eq]
        intro e
        exact absurd (show (2 : Nat) = 1 from congrArg Ky.op e) (by decide)
      rw [this] at hk
      cases hk
    · rfl
  have hpU : U2.pars = U1.pars := by
    rcases (ask_put q2).cases with rfl | ⟨_, _, rfl, _⟩ <;> rfl
  have hU2 : ∃ M1, U2.l = U1.l ++ M1 := by
    rcases (ask_put q2).cases with rfl | ⟨_, _, rfl, _⟩
    · exact ⟨[], by simp⟩
    · exact ⟨_, rfl⟩
  obtain ⟨M1, hM1⟩ := hU2
  have hT2 : 2 ≤ T.l.length := by
    rw [hM, List.length_append]
    omega
  obtain ⟨V, hV, hV2⟩ := made_run (B := 100) (a := a) (b := b) (by decide) h1 h2
  rw [hr] at hV hV2
  obtain ⟨V3, hV3, _⟩ := made_run (B := T.l.length) (a := a) (b := b) (by omega) h1 h2
  have hen : run (madeP low high a b) (start T.l.length) = (x, j, 0, { T with budget := T.l.length }) := run_enough (B := T.l.length) hr (Nat.le_refl _)
  rw [hen] at hV3
  obtain ⟨V4, hV4, _⟩ := made_run (B := T.l.length - 1) (a := a) (b := b) (by omega) h1 h2
  have hsh : (run (madeP low high a b) (start (T.l.length - 1))).2.2.1 = 171 := run_short (B := T.l.length - 1) hr (by show 1 ≤ T.l.length - 1; omega) (by omega)
  refine ⟨x, j, T, i1, i2, V3, hT2, hl17, ?_, ?_, ?_, ?_, hV3, ?_⟩
  · rw [hV, hV2 rfl]
  · rw [numS_ask (ok_frI h1)]
    exact ask_again q1 ⟨M1 ++ M, by rw [hM, hM1, List.append_assoc]⟩ (by rw [hp, hpU])
  · rw [numS_ask (ok_frI h2)]
    exact ask_again q2 ⟨M, hM⟩ hp
  · rw [putC_chart (by omega) (by cases a <;> simp; omega) (by cases b <;> simp; omega)]
    exact run_again hr2 ⟨[], by simp⟩ rfl
  · rw [hV4]; exact hsh
end Go.Proofs.YtcbebikcfcidmaaDoor
