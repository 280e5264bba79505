/-
  The texts NatNextAll, TapReduce, TapNorm1, TapCaught, TapNorm, TapSame, one behind the other.
-/
import Derived.Test.YtcbebikcfcidmaaDoorChaZ11
import Derived.Test.YtcbebikcfcidmaaDoorChaZ06
import Derived.Test.YtcbebikcfcidmaaDoorChaZ07
import Derived.Test.YtcbebikcfcidmaaDoorChaZ09
import Derived.Defers
import Derived.Recover
import Derived.Laws.Pointers
import Derived.Laws.ResultCell
import Derived.BigQuiet

namespace Go.Proofs.YtcbebikcfcidmaaDoor
open Go.RowKit

theorem next_ok : NextOK := by
  intro B w va vb x y hsx hyx hly hra hrb hne hB
  obtain ⟨A, ca, rfl, _⟩ := hra.at_
  obtain ⟨A', cb, rfl, _⟩ := hrb.at_
  obtain ⟨ga, rfl, _⟩ := hra.head0 (by have := nrow_mono hyx; omega)
  obtain ⟨gb, rfl, _⟩ := hrb.head0 (by omega)
  exact next_div B ga gb ca cb x y w hsx hyx hly hra hrb (by rintro rfl; exact hne rfl) hB

end Go.Proofs.YtcbebikcfcidmaaDoor

namespace Go.Proofs.YtcbebikcfcidmaaDoor
open Go.RowKit

section
variable {K : Nat} {w : World} {n d : Nat}

set_option maxHeartbeats 1000000 in
theorem natural_any (a : Option Addr) (l c : Nat) (w : World) :
    Calls Tryd.prog 25 #[.slice a l c] w (Just (.agg #[.bool false, .slice a l c]) w) := by
  go_enter Tryd.func25, Tryd.ntmps25
  go_wp2_with fail
  refine post_cell rfl (g := w.heap.size) rfl (BlkOf.news rfl _ _) Tryd.underlying33 rfl (by kernel_rfl) ?_
  exact ⟨rfl, (Below.refl _ _).alloc (Nat.le_refl _) _⟩

set_option maxHeartbeats 1000000 in
theorem must_any (a : Option Addr) (l c : Nat) (w : World) :
    Calls Tryd.prog 38 #[.slice a l c, .int .i64 0] w (Same (.slice a l c) w) := by
  go_enter Tryd.func38, Tryd.ntmps38
  go_wp2_with fail
  go_ret
  exact ⟨rfl, rfl⟩

theorem nrow_le_short {n : Nat} (h : Short n) {k : Nat} (hk : 2048 ≤ k) : (nrow n).length ≤ k := Nat.le_trans h hk

set_option maxHeartbeats 1000000 in
theorem quotient_any {K' : Nat} {va vg : Value} {g : Nat} (ha : NNum K w va n) (hg : NNum K' w vg g) (hK : K ≤ 137438953472) (hK' : K' ≤ 137438953472) (hs : Short n) (hsg : Short g) (h0 : g ≠ 0) :
    Calls Tryd.prog 41 #[va, vg] w (OwnRes (nrow (n / g)) w) := by
  have HQ := Lib.hid (div_p ha hg (by omega) (by omega) hs hsg h0 (divides_all h0 (nrow_le_short hs (by omega))))
  obtain ⟨a, ca, A, rfl, _, _, _, _, _, _⟩ := ha
  obtain ⟨b, cb, B, rfl, _, _, _, _, _, _⟩ := hg
  go_enter Tryd.func41, Tryd.ntmps41
  go_wp2_with fail
  refine HQ.out.mono ?_
  rintro e w' ⟨q, r, rfl, hq, hr, hb⟩
  have HB := Lib.hid hb
  have HR := Lib.hid hq
  obtain ⟨A', cap, rfl, _, _, _⟩ := hq.at_
  obtain ⟨A2, cap2, rfl, _, _, _⟩ := hr.at_
  clear hb hq hr
  go_wp2_with (first | (go_at_call 38; refine (must_any _ _ _ _).mono ?_; rintro e W ⟨rfl, rfl⟩) | fail)
  go_ret
  exact ⟨_, rfl, HR.out, HB.out⟩

/-- What is normal of a number: its flag, its numerator, its denominator. -/
def rdS (s : Bool) (n : Nat) : Bool := s && decide (n ≠ 0)
def rdN (n d : Nat) : Nat := n / Nat.gcd n d
def rdD (n d : Nat) : Nat := d / Nat.gcd n d
/-- A normal number in memory of the call's own. -/
def FrRow (B : Nat) (w : World) (v : Value) (s : Bool) (n d : Nat) : Prop :=
  ∃ x c y e, v = frV s (.slice x (nrow n).length c) (.slice y (nrow d).length e) ∧ NRow B w (.slice x (nrow n).length c) (nrow n) ∧ NRow B w (.slice y (nrow d).length e) (nrow d)
def RedPost (s : Bool) (n d : Nat) (w : World) (e : Ending) (w' : World) : Prop :=
  ∃ v, e = .returned v ∧ FrRow w.heap.size w' v (rdS s n) (rdN n d) (rdD n d) ∧ Below w.heap.size w w'

/-- Three blocks of its own. -/
theorem three_new {w W0 : World} {z : Nat} (hz : z = w.heap.size) (c0 c1 c2 : Array Value) (t0 t1 t2 : TypeId)
    (h : W0 = ((w.alloc (.cells c0 t0)).alloc (.cells c1 t1)).alloc (.cells c2 t2)) :
    BlkOf W0 z c0 t0 ∧ BlkOf W0 (z + 1) c1 t1 ∧ BlkOf W0 (z + 2) c2 t2 ∧ W0.heap.size = z + 3 ∧ Below w.heap.size w W0 := by
  subst h hz
  refine ⟨((BlkOf.new w c0 t0).alloc _).alloc _, (BlkOf.news (by simp) _ _).alloc _, BlkOf.news (by simp) _ _, by simp, ?_⟩
  exact (((Below.refl _ w).alloc (Nat.le_refl _) _).alloc (by simp) _).alloc (by simp only [World.size_alloc]; omega) _

set_option maxRecDepth 100000 in
set_option maxHeartbeats 2000000 in
theorem reduced_any {vn vd : Value} (s : Bool) (h : FrNum K w vn vd n d) (hK : K ≤ 137438953472) (hs : Short n) (hd : Short d) (h0 : d ≠ 0) :
    Calls Tryd.prog 24 #[.agg #[.bool s, vn], .agg #[.bool false, vd]] w (RedPost s n d w) := by
  have H := Lib.hid h
  obtain ⟨⟨a, ca, A, rfl, _, _, _, _, _, _⟩, ⟨b, cb, B, rfl, _, _, _, _, _, _⟩⟩ := h
  obtain ⟨z, hz⟩ : ∃ z, z = w.heap.size := ⟨_, rfl⟩
  obtain ⟨g, hg⟩ : ∃ g, g = Nat.gcd n d := ⟨_, rfl⟩
  have hg0 : g ≠ 0 := by rw [hg]; exact fun e => h0 (Nat.eq_zero_of_gcd_eq_zero_right e)
  have hgs : Short g := by rw [hg]; exact short_le (Nat.le_of_dvd (by omega) (Nat.gcd_dvd_right n d)) hd
  obtain ⟨W0, hW0⟩ : ∃ W0, W0 = ((w.alloc (.cells #[.bool s, .slice a A.length ca] 33)).alloc (.cells #[.bool false, .slice b B.length cb] 33)).alloc (.cells #[.bool false, .slice none 0 0, .slice none 0 0] 35) := ⟨_, rfl⟩
  obtain ⟨b0, b1, b2, hsz, hbw⟩ := three_new hz _ _ _ _ _ _ hW0
  have hGcd := gcd_p (H.out.grow hbw).1 (H.out.grow hbw).2 (by omega) (by omega) hs hd (.inl next_ok)
  rw [← hg] at hGcd
  have HGG := Lib.hid hg
  clear hg
  have HG := Lib.hid hGcd
  have HBL := Lib.hid (And.intro b0 (And.intro b1 b2))
  have HBW := Lib.hid hbw
  have HSZ := Lib.hid hsz
  have HZ := Lib.hid hz
  subst hW0
  clear b0 b1 b2 hbw hsz hGcd
  go_enter Tryd.func24, Tryd.ntmps24
  go_wp2_with (first
    | (go_at_call 39; refine HG.out.mono ?_)
    | fail)
  rintro e w1 ⟨v, rfl, hr, hb1⟩
  have hsz1 := HSZ.out
  have hbw1 : Below w.heap.size w w1 := HBW.out.trans (hb1.mono HBW.out.size)
  have b0 := HBL.out.1.below hb1 (by rw [hsz1]; omega)
  have b1 := HBL.out.2.1.below hb1 (by rw [hsz1]; omega)
  have b2 := HBL.out.2.2.below hb1 (by rw [hsz1]; omega)
  have hz1 : z + 3 ≤ w1.heap.size := by have := hb1.size; omega
  have hH1 := H.out.grow hbw1
  have hgnum := hr.short hgs
  obtain ⟨A', cap, rfl, _, _, _⟩ := hr.at_
  clear HG HBL HSZ hr hb1 hsz1
  have c00 := b0.cell 0
  have c01 := b0.cell 1
  have c10 := b1.cell 0
  have c11 := b1.cell 1
  simp at c00 c01 c10 c11
  clear HZ
  subst hz
  go_wp2_with (first
    | (go_at_call 38; refine (must_any _ _ _ _).mono ?_; rintro e W ⟨rfl, rfl⟩)
    | fail)
  have hS1 : sgz false d = 1 := by simp [sgz, h0]
  have HS1 := fun W (hW : Grow w1 W) => (zsign_any s (H.out.grow (hbw1.trans (hW.mono hbw1.size))).1 hK).mono (fun e W' h => (⟨h.1, h.2⟩ : e = .returned (.int .i64 (sgz s n)) ∧ Grow W W'))
  have HS2 := fun W (hW : Grow w1 W) => (zsign_any false (H.out.grow (hbw1.trans (hW.mono hbw1.size))).2 hK).mono (fun e W' h => (⟨by rw [← hS1]; exact h.1, h.2⟩ : e = .returned (.int .i64 1) ∧ Grow W W'))
  have HQ1 := fun W (hW : Grow w1 W) => (quotient_any (H.out.grow (hbw1.trans (hW.mono hbw1.size))).1 (hgnum.below hW) hK (by omega) hs hgs hg0).mono (fun e W' h => h.elim fun v h => (⟨v, h.1, h.2.1.more hW.size, h.2.2⟩ : ∃ v, e = .returned v ∧ NRow w1.heap.size W' v (nrow (n / g)) ∧ Grow W W'))
  have HQ2 := fun W (hW : Grow w1 W) => (quotient_any (H.out.grow (hbw1.trans (hW.mono hbw1.size))).2 (hgnum.below hW) hK (by omega) hd hgs hg0).mono (fun e W' h => h.elim fun v h => (⟨v, h.1, h.2.1.more hW.size, h.2.2⟩ : ∃ v, e = .returned v ∧ NRow w1.heap.size W' v (nrow (d / g)) ∧ Grow W W'))
  have H1 := Lib.hid HS1
  have H2 := Lib.hid HS2
  have H3 := Lib.hid HQ1
  have H4 := Lib.hid HQ2
  clear HS1 HS2 HQ1 HQ2
  have hN1 : sgz s n = -1 ∨ sgz s n = 0 ∨ sgz s n = 1 := by unfold sgz; by_cases h : n = 0 <;> cases s <;> simp [h]
  obtain ⟨q, hq⟩ : ∃ q, q = sgz s n := ⟨_, rfl⟩
  rw [← hq] at H1 hN1
  have HQQ := Lib.hid hq
  clear hq
  have H1' := Lib.hid H1.out
  clear H1
  have hqw : IntKind.i64.wrap q = q := by rcases hN1 with h | h | h <;> rw [h] <;> rfl
  have hqs : decide (q < 0) = rdS s n := by
    rw [HQQ.out]
    unfold sgz rdS
    by_cases h : n = 0 <;> cases s <;> simp [h]
  obtain ⟨z, hz⟩ : ∃ z, z = w.heap.size := ⟨_, rfl⟩
  rw [← hz] at b0 b1 b2 hz1 c00 c01 c10 c11 ⊢
  have HZ := Lib.hid hz
  clear hz
  have KC : Hid (∀ W, Grow w1 W → W.cell? ⟨z, 0, none⟩ = some (.bool s) ∧ W.cell? ⟨z, 1, none⟩ = some (.slice a A.length ca) ∧ W.cell? ⟨z + 1, 0, none⟩ = some (.bool false) ∧ W.cell? ⟨z + 1, 1, none⟩ = some (.slice b B.length cb)) := Lib.hid fun W hW => by
    have q0 := b0.below hW (by omega)
    have q1 := b1.below hW (by omega)
    exact ⟨q0.at 0 rfl, q0.at 1 rfl, q1.at 0 rfl, q1.at 1 rfl⟩
  rename_i K0 hK0
  refine wp_region_list [fun v _ => v = .agg #[.bool s, .slice a A.length ca], fun v _ => v = .int .i64 q, fun v _ => v = .agg #[.bool false, .slice b B.length cb], fun v _ => v = .int .i64 1, fun v _ => v = .int .i64 q, fun v _ => v = .bool (rdS s n),
      fun v _ => v = .pointer (some ⟨z, 1, none⟩), fun v _ => v = .slice a A.length ca, fun v _ => v = .slice A' (nrow g).length cap, fun v W => NRow w1.heap.size W v (nrow (n / g)),
      fun v W => ∃ x c, v = .agg #[.bool (rdS s n), .slice x (nrow (n / g)).length c] ∧ NRow w1.heap.size W (.slice x (nrow (n / g)).length c) (nrow (n / g)),
      fun v _ => v = .pointer (some ⟨z + 1, 1, none⟩), fun v _ => v = .slice b B.length cb, fun v _ => v = .slice A' (nrow g).length cap, fun v W => NRow w1.heap.size W v (nrow (d / g)),
      fun v W => ∃ x c y e, v = .agg #[.bool (rdS s n), .slice x (nrow (n / g)).length c, .slice y (nrow (d / g)).length e] ∧ NRow w1.heap.size W (.slice x (nrow (n / g)).length c) (nrow (n / g)) ∧ NRow w1.heap.size W (.slice y (nrow (d / g)).length e) (nrow (d / g))]
    [(2, .pointer (some ⟨z, 0, none⟩)), (3, .pointer (some ⟨z + 1, 0, none⟩)), (5, .slice A' (nrow g).length cap)] 16 (by kernel_rfl) ?stay rfl (by kernel_rfl) rfl ?base (by kernel_rfl) ⟨?_, ?_, ?_, ?_, ?_, ?_, ?_, ?_, ?_, ?_, ?_, ?_, ?_, ?_, ?_, ?_, trivial⟩ ?last
  case stay =>
    refine ⟨stays_pure _, stays_pure _, stays_pure _, stays_pure _, stays_pure _, stays_pure _, stays_pure _, stays_pure _, stays_pure _, ?_, ?_, stays_pure _, stays_pure _, stays_pure _, ?_, ?_, trivial⟩
    · exact fun v W W' hg h => h.below hg (Nat.le_refl _)
    · exact fun v W W' hg ⟨x, c, h1, h2⟩ => ⟨x, c, h1, h2.below hg (Nat.le_refl _)⟩
    · exact fun v W W' hg h => h.below hg (Nat.le_refl _)
    · exact fun v W W' hg ⟨x, c, y, e, h1, h2, h3⟩ => ⟨x, c, y, e, h1, h2.below hg (Nat.le_refl _), h3.below hg (Nat.le_refl _)⟩
  case base => simp
  case last =>
    intro vs W hW hv
    simp only [FactsL, Nat.zero_add, Nat.reduceAdd] at hv
    obtain ⟨v0, v1, v2, v3, v4, v5, v6, v7, v8, v9, v10, v11, v12, v13, v14, ⟨x, c, y, e, v15, hx, hy⟩, _⟩ := hv
    have q2 := b2.below hW (by omega)
    refine ⟨rfl, ?_⟩
    simp only [List.take_succ_cons, List.take_zero, putF, Act.put, List.setIfInBounds_toArray, List.set_cons_zero, List.set_cons_succ, Nat.reduceAdd, v15]
    unfold Oper.wp
    have c20 : W.cell? ⟨z + 1 + 1, 0, none⟩ = some (.bool false) := q2.at 0 rfl
    have c21 : W.cell? ⟨z + 1 + 1, 1, none⟩ = some (.slice none 0 0) := q2.at 1 rfl
    have c22 : W.cell? ⟨z + 1 + 1, 2, none⟩ = some (.slice none 0 0) := q2.at 2 rfl
    have d20 : W.frozen? ⟨z + 1 + 1, 0, none⟩ = false := q2.free 0
    have d21 : W.frozen? ⟨z + 1 + 1, 1, none⟩ = false := q2.free 1
    have d22 : W.frozen? ⟨z + 1 + 1, 2, none⟩ = false := q2.free 2
    simp [execOp, go_sem, c20, c21, c22, d20, d21, d22]
    refine hK0 _ _ ?_
    have q3 := ((q2.set 0 (.bool (rdS s n))).set 1 (.slice x (nrow (n / g)).length c)).set 2 (.slice y (nrow (d / g)).length e)
    have hbW : Below w.heap.size w W := hbw1.trans (hW.mono hbw1.size)
    have hzw := HZ.out
    have hbF : Below w.heap.size w (((W.setCell ⟨z + 2, 0, none⟩ (.bool (rdS s n))).setCell ⟨z + 2, 1, none⟩ (.slice x (nrow (n / g)).length c)).setCell ⟨z + 2, 2, none⟩ (.slice y (nrow (d / g)).length e)) :=
      ((hbW.setCell (p := ⟨z + 2, 0, none⟩) (by show w.heap.size ≤ z + 2; omega) _).setCell (p := ⟨z + 2, 1, none⟩) (by show w.heap.size ≤ z + 2; omega) _).setCell (p := ⟨z + 2, 2, none⟩) (by show w.heap.size ≤ z + 2; omega) _
    have Q3 := Lib.hid q3
    have HBF := Lib.hid hbF
    go_wp2_with fail
    refine post_cell rfl (g := z + 2) rfl Q3.out Tryd.underlying35 rfl (by kernel_rfl) ?_
    unfold RedPost FrRow
    have e1 : n / g = rdN n d := by unfold rdN; rw [HGG.out]
    have e2 : d / g = rdD n d := by unfold rdD; rw [HGG.out]
    rw [← e1, ← e2]
    refine ⟨_, rfl, ⟨_, _, _, _, rfl, ?_, ?_⟩, HBF.out⟩
    · have h1 := ownsRow_setCell_below (a := ⟨z + 2, 2, none⟩) (ownsRow_setCell_below (a := ⟨z + 2, 1, none⟩) (ownsRow_setCell_below (a := ⟨z + 2, 0, none⟩) hx (by show z + 2 < _; omega) (.bool (rdS s n))) (by show z + 2 < _; omega) (.slice x (nrow (n / g)).length c)) (by show z + 2 < _; omega) (.slice y (nrow (d / g)).length e)
      exact NRow.more h1 hbw1.size
    · have h1 := ownsRow_setCell_below (a := ⟨z + 2, 2, none⟩) (ownsRow_setCell_below (a := ⟨z + 2, 1, none⟩) (ownsRow_setCell_below (a := ⟨z + 2, 0, none⟩) hy (by show z + 2 < _; omega) (.bool (rdS s n))) (by show z + 2 < _; omega) (.slice x (nrow (n / g)).length c)) (by show z + 2 < _; omega) (.slice y (nrow (d / g)).length e)
      exact NRow.more h1 hbw1.size
  all_goals
    intro a' W hW hb hf
    obtain ⟨q00, q01, q10, q11⟩ := KC.out W hW
    simp only [List.forall_mem_cons, List.not_mem_nil, false_imp_iff, implies_true, and_true] at hb
    obtain ⟨e2, e3, e5⟩ := hb
    simp [FactsOf, FactAt, Region.binds, factsL] at hf
    refine ⟨rfl, fun K hK => ?_⟩
    unfold Oper.wp
  · simp [execOp, go_sem, *]
    exact hK _ _ (Grow.refl _) rfl
  · simp [go_sem, *]
    refine (H1'.out W hW).mono ?_
    rintro e W' ⟨rfl, hg⟩
    exact hK _ _ hg rfl
  · simp [execOp, go_sem, *]
    exact hK _ _ (Grow.refl _) rfl
  · simp [go_sem, *]
    refine (H2.out W hW).mono ?_
    rintro e W' ⟨rfl, hg⟩
    exact hK _ _ hg rfl
  · simp [execOp, go_sem, *]
    exact hK _ _ (Grow.refl _) rfl
  · simp [execOp, go_sem, *]
    exact hK _ _ (Grow.refl _) rfl
  · simp [execOp, go_sem, *]
    exact hK _ _ (Grow.refl _) rfl
  · simp [execOp, go_sem, *]
    exact hK _ _ (Grow.refl _) rfl
  · simp [execOp, go_sem, *]
    exact hK _ _ (Grow.refl _) rfl
  · simp [go_sem, *]
    refine (H3.out W hW).mono ?_
    rintro e W' ⟨v, rfl, hr, hg⟩
    exact hK _ _ hg hr
  · have f5 := hf.1
    have f9 := hf.2
    obtain ⟨x, c, ex, _⟩ := f9.at_
    rw [ex] at f9
    clear hf
    simp [execOp, go_sem, f5, ex]
    exact hK _ _ (Grow.refl _) ⟨x, c, rfl, f9⟩
  · simp [execOp, go_sem, *]
    exact hK _ _ (Grow.refl _) rfl
  · simp [execOp, go_sem, *]
    exact hK _ _ (Grow.refl _) rfl
  · simp [execOp, go_sem, *]
    exact hK _ _ (Grow.refl _) rfl
  · simp [go_sem, *]
    refine (H4.out W hW).mono ?_
    rintro e W' ⟨v, rfl, hr, hg⟩
    exact hK _ _ hg hr
  · obtain ⟨x, c, ex, hx⟩ := hf.1
    have f9 := hf.2
    obtain ⟨y, c', ey, _⟩ := f9.at_
    rw [ey] at f9
    clear hf
    simp [execOp, go_sem, ex, ey]
    exact hK _ _ (Grow.refl _) ⟨x, c, y, c', rfl, hx, f9⟩
end
end Go.Proofs.YtcbebikcfcidmaaDoor

namespace Go.Proofs.YtcbebikcfcidmaaDoor
open Go.RowKit

/-- What making a number normal comes to, inside: the normal number, or a panic. -/
def NormPost (s : Bool) (n d : Nat) (w : World) (e : Ending) (w' : World) : Prop :=
  (okF n d = true ∧ RedPost s n d w e w') ∨ (okF n d = false ∧ e = .panicked (thrown 2) ∧ Below w.heap.size w w')

section
variable {K : Nat} {w : World} {n d : Nat}

set_option maxRecDepth 100000 in
set_option maxHeartbeats 2000000 in
theorem norm1_any {vn vd : Value} (s : Bool) (p : Nat) (hc0 : w.cell? ⟨p, 0, none⟩ = some (.bool s)) (hc1 : w.cell? ⟨p, 1, none⟩ = some vn) (hc2 : w.cell? ⟨p, 2, none⟩ = some vd) (h : FrNum K w vn vd n d) (hK : K ≤ 137438953472) :
    Calls Tryd.prog 22 #[.pointer (some ⟨p, 0, none⟩)] w (NormPost s n d w) := by
  have hlt := World.block_lt_of_cell? w _ hc0
  have H := Lib.hid h
  obtain ⟨⟨a, ca, A, rfl, _, _, _, _, _, _⟩, ⟨b, cb, B, rfl, _, _, _, _, _, _⟩⟩ := h
  -- the result's block, the row of one number
  obtain ⟨W1, hW1⟩ : ∃ W1, W1 = (w.alloc (.cells #[.bool false, .slice none 0 0, .slice none 0 0] 35)).alloc (.cells #[.bool s, .slice a A.length ca, .slice b B.length cb] 35) := ⟨_, rfl⟩
  have b0 : BlkOf W1 w.heap.size #[.bool false, .slice none 0 0, .slice none 0 0] 35 := by rw [hW1]; exact (BlkOf.new w _ _).alloc _
  have b1 : BlkOf W1 (w.heap.size + 1) #[.bool s, .slice a A.length ca, .slice b B.length cb] 35 := by rw [hW1]; exact BlkOf.news (by simp) _ _
  have hbw : Below w.heap.size w W1 := by rw [hW1]; exact ((Below.refl _ w).alloc (Nat.le_refl _) _).alloc (by simp) _
  have hsz : W1.heap.size = w.heap.size + 2 := by rw [hW1]; simp
  have HC := Lib.hid (fcheck_any s (w.heap.size + 1) (b1.at 0 rfl) (b1.at 1 rfl) (b1.at 2 rfl) (H.out.grow hbw) hK)
  have HBL := Lib.hid (And.intro b0 b1)
  have HBW := Lib.hid hbw
  have HSZ := Lib.hid hsz
  have HP := Lib.hid (And.intro hc0 (And.intro hc1 hc2))
  subst hW1
  clear b0 b1 hbw hsz
  go_enter Tryd.func22, Tryd.ntmps22
  go_wp2_with (first
    | (go_at_call 23; refine HC.out.mono ?_)
    | fail)
  rintro e w1 ⟨he, hb1⟩
  have hsz1 := HSZ.out
  have hbw1 : Below w.heap.size w w1 := HBW.out.trans (hb1.mono HBW.out.size)
  have b0 := HBL.out.1.below hb1 (by rw [hsz1]; omega)
  have hz1 : w.heap.size + 2 ≤ w1.heap.size := by have := hb1.size; omega
  cases hok : okF n d with
  | false =>
    rw [hok] at he
    obtain rfl := he
    go_wp2_with fail
    exact ⟨rfl, .inr ⟨hok, rfl, hbw1⟩⟩
  | true =>
    rw [hok] at he
    obtain rfl := he
    obtain ⟨hsn, hsd, h0⟩ := okF_iff.1 hok
    have hp := HP.out
    have KC : Hid (∀ W, Grow w1 W → W.cell? ⟨p, 0, none⟩ = some (.bool s) ∧ W.cell? ⟨p, 1, none⟩ = some (.slice a A.length ca) ∧ W.cell? ⟨p, 2, none⟩ = some (.slice b B.length cb)) := Lib.hid fun W hW => by
      have hb2 := hbw1.trans (hW.mono hbw1.size)
      exact ⟨(hb2.cell (p := ⟨p, 0, none⟩) hlt).trans hp.1, (hb2.cell (p := ⟨p, 1, none⟩) hlt).trans hp.2.1, (hb2.cell (p := ⟨p, 2, none⟩) hlt).trans hp.2.2⟩
    have hR := (fun W (hW : Grow w1 W) => reduced_any s (H.out.grow (hbw1.trans (hW.mono hbw1.size))) hK hsn hsd h0)
    have hQ : ∀ e w', (okF n d = true ∧ RedPost s n d w e w') → NormPost s n d w e w' := fun e w' h => .inl h
    unfold RedPost at hR hQ
    generalize rdN n d = N at hR hQ
    generalize rdD n d = D at hR hQ
    generalize rdS s n = S at hR hQ
    have HR := Lib.hid hR
    have HQ := Lib.hid hQ
    clear hR hQ
    clear HC HBL HSZ HP hb1 hsz1 hp
    go_wp2_with fail
    rename_i K0 hK0
    refine wp_region_list [fun v _ => v = .pointer (some ⟨p, 0, none⟩), fun v _ => v = .agg #[.bool s, .slice a A.length ca], fun v _ => v = .pointer (some ⟨p, 2, none⟩), fun v _ => v = .slice b B.length cb, fun v _ => v = .agg #[.bool false, .slice b B.length cb], fun v W => FrRow w1.heap.size W v (S) (N) (D)]
      [(0, .pointer (some ⟨p, 0, none⟩))] 6 (by kernel_rfl) ?stay rfl (by kernel_rfl) rfl ?base (by kernel_rfl) ⟨?_, ?_, ?_, ?_, ?_, ?_, trivial⟩ ?last
    case stay =>
      refine ⟨stays_pure _, stays_pure _, stays_pure _, stays_pure _, stays_pure _, ?_, trivial⟩
      exact fun v W W' hg ⟨x, c, y, e, h1, h2, h3⟩ => ⟨x, c, y, e, h1, h2.below hg (Nat.le_refl _), h3.below hg (Nat.le_refl _)⟩
    case base => simp
    case last =>
      intro vs W hW hv
      simp only [FactsL, Nat.zero_add, Nat.reduceAdd] at hv
      obtain ⟨v0, v1, v2, v3, v4, ⟨X, cx, Y, cy, v5, hx, hy⟩, _⟩ := hv
      have q2 := b0.below hW (by omega)
      refine ⟨rfl, ?_⟩
      simp only [List.take_succ_cons, List.take_zero, putF, Act.put, List.setIfInBounds_toArray, List.set_cons_zero, List.set_cons_succ, Nat.reduceAdd, v5, frV]
      unfold Oper.wp
      have c20 := q2.at 0 rfl
      have c21 := q2.at 1 rfl
      have c22 := q2.at 2 rfl
      simp [execOp, go_sem, c20, c21, c22, q2.free]
      refine hK0 _ _ ?_
      have hbW : Below w.heap.size w W := hbw1.trans (hW.mono hbw1.size)
      have Q3 := Lib.hid (((q2.set 0 (.bool (S))).set 1 (.slice X (nrow (N)).length cx)).set 2 (.slice Y (nrow (D)).length cy))
      have HBF := Lib.hid (((hbW.setCell (p := ⟨w.heap.size, 0, none⟩) (Nat.le_refl _) (.bool (S))).setCell (p := ⟨w.heap.size, 1, none⟩) (Nat.le_refl _) (.slice X (nrow (N)).length cx)).setCell (p := ⟨w.heap.size, 2, none⟩) (Nat.le_refl _) (.slice Y (nrow (D)).length cy))
      have hrow : ∀ {v : Value} {l : List Nat}, NRow w1.heap.size W v l → NRow w.heap.size (((W.setCell ⟨w.heap.size, 0, none⟩ (.bool (S))).setCell ⟨w.heap.size, 1, none⟩ (.slice X (nrow (N)).length cx)).setCell ⟨w.heap.size, 2, none⟩ (.slice Y (nrow (D)).length cy)) v l := fun hx =>
        NRow.more (ownsRow_setCell_below (a := ⟨w.heap.size, 2, none⟩) (ownsRow_setCell_below (a := ⟨w.heap.size, 1, none⟩) (ownsRow_setCell_below (a := ⟨w.heap.size, 0, none⟩) hx (by show w.heap.size < _; omega) _) (by show w.heap.size < _; omega) _) (by show w.heap.size < _; omega) _) hbw1.size
      have HX := Lib.hid (hrow hx)
      have HY := Lib.hid (hrow hy)
      clear hrow hx hy c20 c21 c22 hbW q2
      go_wp2_with fail
      refine post_cell rfl (g := w.heap.size) rfl Q3.out Tryd.underlying35 rfl (by kernel_rfl) ?_
      exact HQ.out _ _ ⟨hok, _, rfl, ⟨_, _, _, _, rfl, HX.out, HY.out⟩, HBF.out⟩
    all_goals
      intro a' W hW hb hf
      obtain ⟨q00, q01, q10⟩ := KC.out W hW
      simp only [List.forall_mem_cons, List.not_mem_nil, false_imp_iff, implies_true, and_true] at hb
      simp [FactsOf, FactAt, Region.binds, factsL] at hf
      refine ⟨rfl, fun K hK => ?_⟩
      unfold Oper.wp
    · simp [execOp, go_sem, *]
      exact hK _ _ (Grow.refl _) rfl
    · simp [execOp, go_sem, *]
      exact hK _ _ (Grow.refl _) rfl
    · simp [execOp, go_sem, *]
      exact hK _ _ (Grow.refl _) rfl
    · simp [execOp, go_sem, *]
      exact hK _ _ (Grow.refl _) rfl
    · simp [go_sem, *]
      refine (natural_any _ _ _ _).mono ?_
      rintro e W' ⟨rfl, hg⟩
      exact hK _ _ hg rfl
    · simp [go_sem, *]
      refine (HR.out W hW).mono ?_
      rintro e W' ⟨v, rfl, ⟨x, c, y, e, rfl, hx, hy⟩, hg⟩
      exact hK _ _ hg ⟨x, c, y, e, rfl, hx.more hW.size, hy.more hW.size⟩
end
end Go.Proofs.YtcbebikcfcidmaaDoor

namespace Go.Proofs.YtcbebikcfcidmaaDoor
open Go.RowKit

theorem assert_errno (W : World) (v : Value) : (Instr.typeAssert (.iface 24 v) 20 24 false).run Tryd.prog W = .ok v W := by kernel_rfl

set_option maxHeartbeats 1000000 in
theorem caught_panicking (p : Addr) (x c : Int) (older : List PanicEntry) (w : World) (hc : w.cell? p = some (.int .i64 x)) (hz : w.frozen? p = false) :
    CallsD Tryd.prog 36 #[.pointer (some p)] (.panicking ({ v := .iface 24 (.int .i64 c), recovered := false } :: older)) w fun e u' w' =>
      e = .returned (.tuple #[]) ∧ u' = .panicking ({ v := .iface 24 (.int .i64 c), recovered := true } :: older) ∧ w' = w.setCell p (.int .i64 c) := by
  refine callsD_of_wpS Tryd.func36 rfl fun c₀ cs hu => ?_
  apply wpS_seq
  apply wpS_region
  simp [wpOpsS, go_sem, recoverD, hu, Tryd.ntmps36, Exit.thenS]
  apply wpS_seq
  apply wpS_region
  simp [wpOpsS, go_sem, Exit.thenS]
  refine wpS_cond (t := true) (by simp [Act.eval, Array.replicate]) ?_
  simp only [if_true]
  apply wpS_region
  simp [wpOpsS, go_sem, assert_errno, hc, hz, bodyPostS, results, Tryd.results36]

set_option maxHeartbeats 1000000 in
theorem caught_idle (p : Addr) (w : World) :
    CallsD Tryd.prog 36 #[.pointer (some p)] .returning w fun e u' w' => e = .returned (.tuple #[]) ∧ u' = .returning ∧ w' = w := by
  refine callsD_of_wpS Tryd.func36 rfl fun c₀ cs hu => ?_
  apply wpS_seq
  apply wpS_region
  simp [wpOpsS, go_sem, recoverD, hu, Tryd.ntmps36, Exit.thenS]
  apply wpS_seq
  apply wpS_region
  simp [wpOpsS, go_sem, Exit.thenS]
  refine wpS_cond (t := false) (by simp [Act.eval, Array.replicate]) ?_
  simp only [Bool.false_eq_true, if_false]
  refine wpS_of_wp (wp_skip ?_)
  cases c₀
  simp_all [bodyPostS, results, Tryd.results36]

section
variable {K : Nat} {w : World} {n d : Nat}
/-- What 'Norm' tells: the normal number and 0, or an invalid number's error. -/
def FNorm (s : Bool) (n d : Nat) (w : World) (e : Ending) (w' : World) : Prop :=
  (okF n d = true ∧ ∃ v, e = .returned (.tuple #[v, .int .i64 0]) ∧ FrRow w.heap.size w' v (rdS s n) (rdN n d) (rdD n d) ∧ Below w.heap.size w w') ∨
  (okF n d = false ∧ e = .returned (.tuple #[.agg #[.bool false, .slice none 0 0, .slice none 0 0], .int .i64 2]) ∧ Below w.heap.size w w')

set_option maxRecDepth 100000 in
set_option maxHeartbeats 2000000 in
theorem caught_any {vn vd : Value} (s : Bool) (p : Nat) (hc0 : w.cell? ⟨p, 0, none⟩ = some (.bool s)) (hc1 : w.cell? ⟨p, 1, none⟩ = some vn) (hc2 : w.cell? ⟨p, 2, none⟩ = some vd) (h : FrNum K w vn vd n d) (hK : K ≤ 137438953472) :
    Calls Tryd.prog 21 #[.func (.func 22) #[] #[.pointer (some ⟨p, 0, none⟩)]] w (FNorm s n d w) := by
  have hmf : ∀ (fn : Fn) (first cap : Array Value) (w : World), (Instr.makeFunc fn first cap).run Tryd.prog w = .ok (.func fn first cap) w := fun _ _ _ _ => rfl
  have hlt := World.block_lt_of_cell? w _ hc0
  obtain ⟨W1, hW1⟩ : ∃ W1, W1 = (w.alloc (.cells #[.bool false, .slice none 0 0, .slice none 0 0] 35)).alloc (.cells #[.int .i64 0] 24) := ⟨_, rfl⟩
  have b0 : BlkOf W1 w.heap.size #[.bool false, .slice none 0 0, .slice none 0 0] 35 := by rw [hW1]; exact (BlkOf.new w _ _).alloc _
  have b1 : BlkOf W1 (w.heap.size + 1) #[.int .i64 0] 24 := by rw [hW1]; exact BlkOf.news (by simp) _ _
  have hbw : Below w.heap.size w W1 := by rw [hW1]; exact ((Below.refl _ w).alloc (Nat.le_refl _) _).alloc (by simp) _
  have hsz : W1.heap.size = w.heap.size + 2 := by rw [hW1]; simp
  have HN := Lib.hid (norm1_any s p ((hbw.cell (p := ⟨p, 0, none⟩) hlt).trans hc0) ((hbw.cell (p := ⟨p, 1, none⟩) hlt).trans hc1) ((hbw.cell (p := ⟨p, 2, none⟩) hlt).trans hc2) (h.grow hbw) hK)
  have HBL := Lib.hid (And.intro b0 b1)
  have HBW := Lib.hid hbw
  have HSZ := Lib.hid hsz
  subst hW1
  clear b0 b1 hbw hsz hc0 hc1 hc2 h
  go_enter_defers Tryd.func21, Tryd.ntmps21
  go_wp2_with (first
    | (go_at_call 22; refine HN.out.mono ?_)
    | fail)
  have hsz1 := HSZ.out
  rintro e w1 (⟨hok, v, rfl, ⟨x, c, y, e', rfl, hx, hy⟩, hb1⟩ | ⟨hok, rfl, hb1⟩)
  · have hbw1 : Below w.heap.size w w1 := HBW.out.trans (hb1.mono HBW.out.size)
    have b0 := HBL.out.1.below hb1 (by rw [hsz1]; omega)
    have b1 := HBL.out.2.below hb1 (by rw [hsz1]; omega)
    have hz1 : w.heap.size + 2 ≤ w1.heap.size := by have := hb1.size; omega
    rw [hsz1] at hx hy
    have hQ : ∀ e w', (okF n d = true ∧ ∃ v, e = .returned (.tuple #[v, .int .i64 0]) ∧ FrRow w.heap.size w' v (rdS s n) (rdN n d) (rdD n d) ∧ Below w.heap.size w w') → FNorm s n d w e w' := fun _ _ h => .inl h
    unfold FrRow at hQ
    unfold frV at hQ ⊢
    generalize rdN n d = N at hQ hx hy ⊢
    generalize rdD n d = D at hQ hx hy ⊢
    generalize rdS s n = S at hQ ⊢
    have HQ := Lib.hid hQ
    have c00 := b0.at 0 rfl
    have c01 := b0.at 1 rfl
    have c02 := b0.at 2 rfl
    have c10 := b1.at 0 rfl
    have z00 := b0.free
    have z10 := b1.free
    have Q0 := Lib.hid (((b0.set 0 (.bool S)).set 1 (.slice x (nrow N).length c)).set 2 (.slice y (nrow D).length e') |>.other (p := ⟨w.heap.size + 1, 0, none⟩) (by show w.heap.size + 1 ≠ _; omega) (.int .i64 0))
    have Q1 := Lib.hid ((((b1.other (p := ⟨w.heap.size, 0, none⟩) (by show w.heap.size ≠ _; omega) (.bool S)).other (p := ⟨w.heap.size, 1, none⟩) (by show w.heap.size ≠ _; omega) (.slice x (nrow N).length c)).other (p := ⟨w.heap.size, 2, none⟩) (by show w.heap.size ≠ _; omega) (.slice y (nrow D).length e')).set 0 (.int .i64 0))
    have hrow : ∀ {v : Value} {l : List Nat}, NRow (w.heap.size + 2) w1 v l → NRow w.heap.size ((((w1.setCell ⟨w.heap.size, 0, none⟩ (.bool S)).setCell ⟨w.heap.size, 1, none⟩ (.slice x (nrow N).length c)).setCell ⟨w.heap.size, 2, none⟩ (.slice y (nrow D).length e')).setCell ⟨w.heap.size + 1, 0, none⟩ (.int .i64 0)) v l := fun hx =>
      NRow.more (ownsRow_setCell_below (a := ⟨w.heap.size + 1, 0, none⟩) (ownsRow_setCell_below (a := ⟨w.heap.size, 2, none⟩) (ownsRow_setCell_below (a := ⟨w.heap.size, 1, none⟩) (ownsRow_setCell_below (a := ⟨w.heap.size, 0, none⟩) hx (by show w.heap.size < _; omega) _) (by show w.heap.size < _; omega) _) (by show w.heap.size < _; omega) _) (by show w.heap.size + 1 < _; omega) _) (by omega)
    have HX := Lib.hid (hrow hx)
    have HY := Lib.hid (hrow hy)
    have HBF := Lib.hid ((((hbw1.setCell (p := ⟨w.heap.size, 0, none⟩) (Nat.le_refl _) (.bool S)).setCell (p := ⟨w.heap.size, 1, none⟩) (Nat.le_refl _) (.slice x (nrow N).length c)).setCell (p := ⟨w.heap.size, 2, none⟩) (Nat.le_refl _) (.slice y (nrow D).length e')).setCell (p := ⟨w.heap.size + 1, 0, none⟩) (Nat.le_succ _) (.int .i64 0))
    clear hrow hx hy hQ
    go_wp2_with fail
    refine leaves_cons (f := 36) (args := #[.pointer (some ⟨w.heap.size + 1, 0, none⟩)]) (by simp) (by simp [go_sem]) ?_
    refine (caught_idle ⟨w.heap.size + 1, 0, none⟩ _).mono ?_
    rintro e u' w'' ⟨rfl, rfl, rfl⟩
    have d0 := Q0.out.at 0 rfl
    have d1 := Q0.out.at 1 rfl
    have d2 := Q0.out.at 2 rfl
    have d3 := Q1.out.at 0 rfl
    generalize hWF : ((((w1.setCell ⟨w.heap.size, 0, none⟩ (.bool S)).setCell ⟨w.heap.size, 1, none⟩ (.slice x (nrow N).length c)).setCell ⟨w.heap.size, 2, none⟩ (.slice y (nrow D).length e')).setCell ⟨w.heap.size + 1, 0, none⟩ (.int .i64 0)) = WF at *
    simp [Leaves, settle, results, Tryd.results21, go_sem, d0, d1, d2, d3]
    exact HQ.out _ _ ⟨hok, _, rfl, ⟨_, _, _, _, rfl, HX.out, HY.out⟩, HBF.out⟩
  · have hbw1 : Below w.heap.size w w1 := HBW.out.trans (hb1.mono HBW.out.size)
    have b0 := HBL.out.1.below hb1 (by rw [hsz1]; omega)
    have b1 := HBL.out.2.below hb1 (by rw [hsz1]; omega)
    refine leaves_cons (f := 36) (args := #[.pointer (some ⟨w.heap.size + 1, 0, none⟩)]) (by simp) (by simp [go_sem]) ?_
    refine (caught_panicking ⟨w.heap.size + 1, 0, none⟩ 0 2 [] _ (b1.at 0 rfl) (b1.free 0)).mono ?_
    rintro e u' w'' ⟨rfl, rfl, rfl⟩
    have c0 := (b0.other (p := ⟨w.heap.size + 1, 0, none⟩) (by show w.heap.size + 1 ≠ _; omega) (.int .i64 2))
    have c1 := (b1.set 0 (.int .i64 2))
    have d0 := c0.at 0 rfl
    have d1 := c0.at 1 rfl
    have d2 := c0.at 2 rfl
    have d3 := c1.at 0 rfl
    simp [Leaves, settle, results, Tryd.results21, go_sem, d0, d1, d2, d3]
    exact .inr ⟨hok, rfl, hbw1.setCell (p := ⟨w.heap.size + 1, 0, none⟩) (Nat.le_succ _) _⟩
end
end Go.Proofs.YtcbebikcfcidmaaDoor

namespace Go.Proofs.YtcbebikcfcidmaaDoor
open Go.RowKit

/-- Results of which the first lies in a block, the second in a slot. -/
theorem results_cell_tmp {P : Program} {fn : Func} {t p : Tmp} {ty : TypeId} (h : fn.results = #[.cell p ty, .tmp t]) (tmps : Array Value) (w : World) (g : Nat) (T : TypeId) (cs : Array Value) (d : TypeDesc)
    (hp : tmps.getD p undef = .pointer (some ⟨g, 0, none⟩)) (hg : BlkOf w g cs T) (hu : P.underlying ty = some d) (hd : (match d with | .struct _ | .array _ _ => true | _ => false) = true) (hi : (P.info? ty).map (·.size) = some cs.size) :
    (results fn tmps).run P w = .ok (.tuple #[.agg cs, tmps.getD t undef]) w := by
  have hp' : tmps[p]?.getD undef = .pointer (some ⟨g, 0, none⟩) := by simpa using hp
  simp [results, h, hp', asAddr, run_loadVar_row w g T ty cs (0, 0) d hg hu hd hi]
theorem post_cell_tmp {P : Program} {fn : Func} {t p : Tmp} {ty : TypeId} {Q : Ending → World → Prop} (h : fn.results = #[.cell p ty, .tmp t]) {tmps : Array Value} {w : World} {g : Nat} {T : TypeId} {cs : Array Value} {d : TypeDesc}
    (hp : tmps.getD p undef = .pointer (some ⟨g, 0, none⟩)) (hg : BlkOf w g cs T) (hu : P.underlying ty = some d) (hd : (match d with | .struct _ | .array _ _ => true | _ => false) = true) (hi : (P.info? ty).map (·.size) = some cs.size)
    (hq : Q (.returned (.tuple #[.agg cs, tmps.getD t undef])) w) : bodyPost P fn Q .ret { tmps := tmps, defers := [] } w :=
  bodyPost_ret (results_cell_tmp h tmps w g T cs d hp hg hu hd hi) rfl hq

section
variable {K : Nat} {w : World} {n d : Nat}

set_option maxRecDepth 100000 in
set_option maxHeartbeats 2000000 in
theorem fnorm_any {vn vd : Value} (s : Bool) (h : FrNum K w vn vd n d) (hK : K ≤ 137438953472) :
    Calls Tryd.prog 14 #[.agg #[.bool s, vn, vd]] w (FNorm s n d w) := by
  have hmf : ∀ (fn : Fn) (first cap : Array Value) (w : World), (Instr.makeFunc fn first cap).run Tryd.prog w = .ok (.func fn first cap) w := fun _ _ _ _ => rfl
  obtain ⟨W1, hW1⟩ : ∃ W1, W1 = (w.alloc (.cells #[.bool s, vn, vd] 35)).alloc (.cells #[.bool false, .slice none 0 0, .slice none 0 0] 35) := ⟨_, rfl⟩
  have b0 : BlkOf W1 w.heap.size #[.bool s, vn, vd] 35 := by rw [hW1]; exact (BlkOf.new w _ _).alloc _
  have b1 : BlkOf W1 (w.heap.size + 1) #[.bool false, .slice none 0 0, .slice none 0 0] 35 := by rw [hW1]; exact BlkOf.news (by simp) _ _
  have hbw : Below w.heap.size w W1 := by rw [hW1]; exact ((Below.refl _ w).alloc (Nat.le_refl _) _).alloc (by simp) _
  have hsz : W1.heap.size = w.heap.size + 2 := by rw [hW1]; simp
  have HC := Lib.hid (caught_any s w.heap.size (b0.at 0 rfl) (b0.at 1 rfl) (b0.at 2 rfl) (h.grow hbw) hK)
  have HB1 := Lib.hid b1
  have HBW := Lib.hid hbw
  have HSZ := Lib.hid hsz
  obtain ⟨⟨a, ca, A, rfl, _, _, _, _, _, _⟩, ⟨b, cb, B, rfl, _, _, _, _, _, _⟩⟩ := h
  subst hW1
  clear b0 b1 hbw hsz
  go_enter Tryd.func14, Tryd.ntmps14
  go_wp2_with (first
    | (go_at_call 21; refine HC.out.mono ?_)
    | fail)
  have hsz1 := HSZ.out
  rintro e w1 (⟨hok, v, rfl, ⟨x, c, y, e', rfl, hx, hy⟩, hb1⟩ | ⟨hok, rfl, hb1⟩)
  · have hbw1 : Below w.heap.size w w1 := HBW.out.trans (hb1.mono HBW.out.size)
    have b1 := HB1.out.below hb1 (by rw [hsz1]; omega)
    have hz1 : w.heap.size + 2 ≤ w1.heap.size := by have := hb1.size; omega
    rw [hsz1] at hx hy
    have hQ : ∀ e w', (okF n d = true ∧ ∃ v, e = .returned (.tuple #[v, .int .i64 0]) ∧ FrRow w.heap.size w' v (rdS s n) (rdN n d) (rdD n d) ∧ Below w.heap.size w w') → FNorm s n d w e w' := fun _ _ h => .inl h
    unfold FrRow at hQ
    unfold frV at hQ ⊢
    generalize rdN n d = N at hQ hx hy ⊢
    generalize rdD n d = D at hQ hx hy ⊢
    generalize rdS s n = S at hQ ⊢
    have HQ := Lib.hid hQ
    have c10 := b1.at 0 rfl
    have c11 := b1.at 1 rfl
    have c12 := b1.at 2 rfl
    have z10 := b1.free
    have Q1 := Lib.hid (((b1.set 0 (.bool S)).set 1 (.slice x (nrow N).length c)).set 2 (.slice y (nrow D).length e'))
    have hrow : ∀ {v : Value} {l : List Nat}, NRow (w.heap.size + 2) w1 v l → NRow w.heap.size (((w1.setCell ⟨w.heap.size + 1, 0, none⟩ (.bool S)).setCell ⟨w.heap.size + 1, 1, none⟩ (.slice x (nrow N).length c)).setCell ⟨w.heap.size + 1, 2, none⟩ (.slice y (nrow D).length e')) v l := fun hx =>
      NRow.more (ownsRow_setCell_below (a := ⟨w.heap.size + 1, 2, none⟩) (ownsRow_setCell_below (a := ⟨w.heap.size + 1, 1, none⟩) (ownsRow_setCell_below (a := ⟨w.heap.size + 1, 0, none⟩) hx (by show w.heap.size + 1 < _; omega) _) (by show w.heap.size + 1 < _; omega) _) (by show w.heap.size + 1 < _; omega) _) (by omega)
    have HX := Lib.hid (hrow hx)
    have HY := Lib.hid (hrow hy)
    have HBF := Lib.hid (((hbw1.setCell (p := ⟨w.heap.size + 1, 0, none⟩) (Nat.le_succ _) (.bool S)).setCell (p := ⟨w.heap.size + 1, 1, none⟩) (Nat.le_succ _) (.slice x (nrow N).length c)).setCell (p := ⟨w.heap.size + 1, 2, none⟩) (Nat.le_succ _) (.slice y (nrow D).length e'))
    clear hrow hx hy hQ
    go_wp2_with fail
    refine post_cell_tmp rfl (g := w.heap.size + 1) rfl Q1.out Tryd.underlying35 rfl (by kernel_rfl) ?_
    exact HQ.out _ _ ⟨hok, _, rfl, ⟨_, _, _, _, rfl, HX.out, HY.out⟩, HBF.out⟩
  · have hbw1 : Below w.heap.size w w1 := HBW.out.trans (hb1.mono HBW.out.size)
    have b1 := HB1.out.below hb1 (by rw [hsz1]; omega)
    have c10 := b1.at 0 rfl
    have c11 := b1.at 1 rfl
    have c12 := b1.at 2 rfl
    have z10 := b1.free
    have Q1 := Lib.hid (((b1.set 0 (.bool false)).set 1 (.slice none 0 0)).set 2 (.slice none 0 0))
    have HBF := Lib.hid (((hbw1.setCell (p := ⟨w.heap.size + 1, 0, none⟩) (Nat.le_succ _) (.bool false)).setCell (p := ⟨w.heap.size + 1, 1, none⟩) (Nat.le_succ _) (.slice none 0 0)).setCell (p := ⟨w.heap.size + 1, 2, none⟩) (Nat.le_succ _) (.slice none 0 0))
    go_wp2_with fail
    refine post_cell_tmp rfl (g := w.heap.size + 1) rfl Q1.out Tryd.underlying35 rfl (by kernel_rfl) ?_
    exact .inr ⟨hok, rfl, HBF.out⟩
end
end Go.Proofs.YtcbebikcfcidmaaDoor

namespace Go.Proofs.YtcbebikcfcidmaaDoor
open Go.RowKit

/-- A row of limbs that may be read. -/
def Raw (w : World) (v : Value) (L : List Nat) : Prop := ∃ a cap, v = .slice a L.length cap ∧ L.length ≤ cap ∧ (a = none → cap = 0) ∧ Fits L ∧ NatAt w a L
theorem Raw.grow {w w' : World} {v : Value} {L : List Nat} (h : Raw w v L) (hg : Grow w w') : Raw w' v L := by
  obtain ⟨a, cap, h1, h2, h3, h4, h5⟩ := h
  exact ⟨a, cap, h1, h2, h3, h4, h5.below hg (Nat.le_refl _)⟩
theorem Raw.num {w : World} {v : Value} {L : List Nat} {K : Nat} (h : Raw w v L) (hK : L.length ≤ K) : NNum K w v (lv L) := by
  obtain ⟨a, cap, h1, h2, h3, h4, h5⟩ := h
  exact ⟨a, cap, L, h1, h2, h3, h4, h5, rfl, hK⟩
theorem Raw.nil (w : World) : Raw w (.slice none 0 0) [] := ⟨none, 0, rfl, Nat.le_refl _, fun _ => rfl, fun _ h => by simp at h, fun _ h => by simp at h⟩
theorem NRow.raw {B : Nat} {w : World} {v : Value} {n : Nat} (h : NRow B w v (nrow n)) : Raw w v (nrow n) := by
  have hh := h.num (K := (nrow n).length) (nrow_fits n) (Nat.le_refl _)
  obtain ⟨A, cap, rfl, h1, h2, h3⟩ := h.at_
  refine ⟨A, cap, rfl, h1, fun hA => ?_, nrow_fits n, h3⟩
  obtain ⟨a', cap', L', e, _, hn, _⟩ := hh
  injection e with e1 _ e3
  rw [e3]
  exact hn (by rw [← e1]; exact hA)

theorem take_eq_step {L M : List Nat} {k : Nat} (h : L.take k = M.take k) (hl : k < L.length) (hm : k < M.length) : (L.take (k + 1) = M.take (k + 1)) ↔ L.getD k 0 = M.getD k 0 := by
  have e1 : L.getD k 0 = L[k] := by rw [List.getD_eq_getElem?_getD, List.getElem?_eq_getElem hl]; rfl
  have e2 : M.getD k 0 = M[k] := by rw [List.getD_eq_getElem?_getD, List.getElem?_eq_getElem hm]; rfl
  rw [List.take_succ_eq_append_getElem hl, List.take_succ_eq_append_getElem hm, h, e1, e2]
  exact ⟨fun e => by have := List.append_cancel_left e; injection this, fun e => by rw [e]⟩
theorem getD_ne {L M : List Nat} {k : Nat} (h : L.getD k 0 ≠ M.getD k 0) : L ≠ M := fun e => h (by rw [e])

def EqRel (L M : List Nat) (w : World) (i : Value) (wr : World) : Prop := ∃ k : Nat, k ≤ L.length ∧ i = .int .i64 (k : Int) ∧ L.take k = M.take k ∧ Below w.heap.size w wr

set_option maxHeartbeats 1000000 in
theorem equal_any (a b : Option Addr) (ca cb : Nat) (L M : List Nat) (w : World) (hl : L.length ≤ 1099511627776) (hL : NatAt w a L) (hM : NatAt w b M) :
    Calls Tryd.prog 95 #[.slice a L.length ca, .slice b M.length cb] w (Just (.bool (decide (L = M))) w) := by
  by_cases hlen : L.length = M.length
  · have HL := Lib.hid hL
    have HM := Lib.hid hM
    have HLEN := Lib.hid hlen
    rw [← hlen]
    clear hL hM hlen
    obtain ⟨N, hN⟩ : ∃ N, N = L.length := ⟨_, rfl⟩
    rw [← hN] at hl ⊢
    have HN := Lib.hid hN
    clear hN
    go_enter Tryd.func95, Tryd.ntmps95
    go_wp2_with fail
    go_loopw [13] (fun i wr => EqRel L M w i wr) (fun i _ => N - (intOf i).toNat)
    case atStart => exact ⟨0, by omega, rfl, rfl, Below.refl _ _⟩
    case round =>
      obtain ⟨k, hk, rfl, ht, hb⟩ := hrel
      have HB := Lib.hid hb
      have HT := Lib.hid ht
      have hkN : k ≤ N := by rw [HN.out]; exact hk
      clear hk ht hb
      by_cases hlt : k < N
      · obtain ⟨b1, o1, rfl, hc1⟩ := HL.out.below HB.out (Nat.le_refl _) k (by have := HN.out; omega)
        obtain ⟨b2, o2, rfl, hc2⟩ := HM.out.below HB.out (Nat.le_refl _) k (by have := HN.out; have := HLEN.out; omega)
        obtain ⟨p, hp⟩ : ∃ p, p = L.getD k 0 := ⟨_, rfl⟩
        obtain ⟨q, hq⟩ : ∃ q, q = M.getD k 0 := ⟨_, rfl⟩
        rw [← hp] at hc1
        rw [← hq] at hc2
        have HP := Lib.hid hp
        have HQ := Lib.hid hq
        have hltI : (k : Int) < (N : Int) := by omega
        clear hp hq
        have HST := Lib.hid (take_eq_step HT.out (by have := HN.out; omega) (by have := HN.out; have := HLEN.out; omega))
        go_wp2_with fail
        by_cases hpq : p = q
        · have hbe : (p : Int) = (q : Int) := by rw [hpq]
          have hne : ((p : Int) != (q : Int)) = false := by simp [hpq]
          have HST2 : Hid (L.take (k + 1) = M.take (k + 1)) := Lib.hid (HST.out.2 (by rw [← HP.out, ← HQ.out, hpq]))
          go_quiet (fail)
          go_wp2_with fail
          go_roundw
          case rel => exact ⟨k + 1, by have := HN.out; omega, by go_num, HST2.out, HB.out.trans ⟨rfl, rfl, rfl, Nat.le_refl _, fun _ _ => rfl⟩⟩
          case measure => simp [intOf]; omega
        · have hbe : ((p : Int) == (q : Int)) = false := by simp; omega
          have hpi : ¬ ((p : Int) = (q : Int)) := by omega
          have HNE : Hid (L ≠ M) := Lib.hid (getD_ne (by rw [← HP.out, ← HQ.out]; exact hpq))
          go_quiet (fail)
          go_wp2_with fail
          go_ret
          exact ⟨by rw [decide_eq_false HNE.out]; rfl, HB.out.trans ⟨rfl, rfl, rfl, Nat.le_refl _, fun _ _ => rfl⟩⟩
      · obtain rfl : k = N := by omega
        have HE : Hid (L = M) := Lib.hid (by
          have h1 := HT.out
          have h2 := HN.out
          have h3 := HLEN.out
          rw [List.take_of_length_le (by omega), List.take_of_length_le (by omega)] at h1
          exact h1)
        go_wp2_with fail
        go_ret
        exact ⟨by rw [decide_eq_true HE.out]; rfl, HB.out⟩
  · have hne : ¬ ((L.length : Int) = (M.length : Int)) := by omega
    have HNE : Hid (L ≠ M) := Lib.hid (fun e => hlen (by rw [e]))
    clear hL hM
    go_enter Tryd.func95, Tryd.ntmps95
    go_wp2_with fail
    go_ret
    exact ⟨by rw [decide_eq_false HNE.out]; rfl, Below.refl _ _⟩

/-- A number as it is written. -/
structure Fr where
  s : Bool
  m : List Nat
  d : List Nat
/-- A number that may be read, as it is written; no row of it is longer than K. -/
def FrAt (K : Nat) (w : World) (x : Fr) (vn vd : Value) : Prop := Raw w vn x.m ∧ Raw w vd x.d ∧ x.m.length ≤ K ∧ x.d.length ≤ K
theorem FrAt.grow {K : Nat} {w w' : World} {x : Fr} {vn vd : Value} (h : FrAt K w x vn vd) (hg : Grow w w') : FrAt K w' x vn vd := ⟨h.1.grow hg, h.2.1.grow hg, h.2.2⟩
theorem FrAt.num {K : Nat} {w : World} {x : Fr} {vn vd : Value} (h : FrAt K w x vn vd) : FrNum K w vn vd (lv x.m) (lv x.d) := ⟨h.1.num h.2.2.1, h.2.1.num h.2.2.2⟩
theorem FrAt.equal {K : Nat} {w : World} {v v' : Value} {L M : List Nat} (h : Raw w v L) (h' : Raw w v' M) (hK : L.length ≤ K) (hK2 : K ≤ 137438953472) :
    Calls Tryd.prog 95 #[v, v'] w (Just (.bool (decide (L = M))) w) := by
  obtain ⟨a, ca, rfl, _, _, _, h1⟩ := h
  obtain ⟨b, cb, rfl, _, _, _, h2⟩ := h'
  exact equal_any a b ca cb L M w (by omega) h1 h2
/-- Are they written in the same way? -/
def sameB (x y : Fr) : Bool := (x.s == y.s && decide (x.m = y.m)) && decide (x.d = y.d)

set_option maxHeartbeats 1000000 in
theorem issame_any {K K' : Nat} {w : World} {x y : Fr} {vn vd un ud : Value} (h : FrAt K w x vn vd) (h' : FrAt K' w y un ud) (hK : K ≤ 137438953472) :
    Calls Tryd.prog 86 #[.agg #[.bool x.s, vn, vd], .agg #[.bool y.s, un, ud]] w (Just (.bool (sameB x y)) w) := by
  have HE1 := Lib.hid (fun W (hW : Grow w W) => FrAt.equal (h.grow hW).1 (h'.grow hW).1 h.2.2.1 hK)
  have HE2 := Lib.hid (fun W (hW : Grow w W) => FrAt.equal (h.grow hW).2.1 (h'.grow hW).2.1 h.2.2.2 hK)
  obtain ⟨⟨a, ca, rfl, _, _, _, _⟩, ⟨b, cb, rfl, _, _, _, _⟩, _⟩ := h
  obtain ⟨⟨a', ca', rfl, _, _, _, _⟩, ⟨b', cb', rfl, _, _, _, _⟩, _⟩ := h'
  obtain ⟨s, L, D⟩ := x
  obtain ⟨s', M, E⟩ := y
  dsimp only at *
  obtain ⟨W1, hW1⟩ : ∃ W1, W1 = (w.alloc (.cells #[.bool s, .slice a L.length ca, .slice b D.length cb] 35)).alloc (.cells #[.bool s', .slice a' M.length ca', .slice b' E.length cb'] 35) := ⟨_, rfl⟩
  have b0 : BlkOf W1 w.heap.size #[.bool s, .slice a L.length ca, .slice b D.length cb] 35 := by rw [hW1]; exact (BlkOf.new w _ _).alloc _
  have b1 : BlkOf W1 (w.heap.size + 1) #[.bool s', .slice a' M.length ca', .slice b' E.length cb'] 35 := by rw [hW1]; exact BlkOf.news (by simp) _ _
  have hbw : Grow w W1 := by rw [hW1]; exact ((Below.refl _ w).alloc (Nat.le_refl _) _).alloc (by simp) _
  have HBL := Lib.hid (And.intro b0 b1)
  have HBW := Lib.hid hbw
  unfold sameB
  dsimp only
  subst hW1
  clear b0 b1 hbw
  have hs : s = s' ∨ (s = true ∧ s' = false) ∨ (s = false ∧ s' = true) := by cases s <;> cases s' <;> simp
  rcases hs with rfl | ⟨rfl, rfl⟩ | ⟨rfl, rfl⟩
  · obtain ⟨p, hp⟩ : ∃ p, p = decide (L = M) := ⟨_, rfl⟩
    obtain ⟨q, hq⟩ : ∃ q, q = decide (D = E) := ⟨_, rfl⟩
    have HE1' := HE1.out
    have HE2' := HE2.out
    rw [← hp] at HE1' ⊢
    rw [← hq] at HE2' ⊢
    have H1 := Lib.hid HE1'
    have H2 := Lib.hid HE2'
    clear HE1 HE2 HE1' HE2' hp hq
    cases p with
    | true =>
      go_enter Tryd.func86, Tryd.ntmps86
      go_wp2_with (first | (go_at_call 95; refine (H1.out _ HBW.out).mono ?_) | fail)
      rintro e w1 ⟨rfl, hb1⟩
      have b0 := HBL.out.1.below hb1 HBL.out.1.lt
      have b1 := HBL.out.2.below hb1 HBL.out.2.lt
      have HG := Lib.hid (HBW.out.trans hb1)
      have c0 := b0.at 0 rfl
      have c1 := b0.at 1 rfl
      have c2 := b0.at 2 rfl
      have c3 := b1.at 0 rfl
      have c4 := b1.at 1 rfl
      have c5 := b1.at 2 rfl
      clear hb1
      go_wp2_with (first | (go_at_call 95; refine (H2.out _ HG.out).mono ?_; rintro e w2 ⟨rfl, hb2⟩) | fail)
      go_ret
      rename_i w2 hb2
      exact ⟨by simp, HG.out.trans hb2⟩
    | false =>
      go_enter Tryd.func86, Tryd.ntmps86
      go_wp2_with (first | (go_at_call 95; refine (H1.out _ HBW.out).mono ?_) | fail)
      rintro e w1 ⟨rfl, hb1⟩
      have HG := Lib.hid (HBW.out.trans hb1)
      clear hb1
      go_wp2_with fail
      go_ret
      exact ⟨by simp, HG.out⟩
  all_goals
    go_enter Tryd.func86, Tryd.ntmps86
    go_wp2_with fail
    go_ret
    exact ⟨rfl, HBW.out⟩

/-- Is it normal? -/
def normB (x : Fr) : Bool := okF (lv x.m) (lv x.d) && sameB ⟨rdS x.s (lv x.m), nrow (rdN (lv x.m) (lv x.d)), nrow (rdD (lv x.m) (lv x.d))⟩ x

theorem isindex_any (i n : Int) (w : World) (hi : -9223372036854775808 ≤ i ∧ i ≤ 9223372036854775807) (hn : -9223372036854775808 ≤ n ∧ n ≤ 9223372036854775807) :
    Calls Tryd.prog 74 #[.int .i64 i, .int .i64 n] w (Same (.bool (decide (0 ≤ i) && decide (i < n))) w) := by
  obtain ⟨i1, i2⟩ := hi
  obtain ⟨n1, n2⟩ := hn
  by_cases h : 0 ≤ i
  · have hd : decide (0 ≤ i) = true := by simp [h]
    rw [hd]
    go_enter Tryd.func74, Tryd.ntmps74
    go_wp2_with fail
    go_ret
    exact ⟨by simp, rfl⟩
  · have hd : decide (0 ≤ i) = false := by simp; omega
    rw [hd]
    go_enter Tryd.func74, Tryd.ntmps74
    go_wp2_with fail
    go_ret
    exact ⟨by simp, rfl⟩
end Go.Proofs.YtcbebikcfcidmaaDoor
