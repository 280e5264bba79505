/-
  The texts NatQDiv, NatLimbGcd, NatQGcd, NatGuessM, NatGuess, one behind the other.
-/
import Derived.Test.YtcbebikcfcidmaaDoorChaZ06
import Derived.Test.YtcbebikcfcidmaaDoorChaZ02
import Derived.Test.YtcbebikcfcidmaaDoorChaZ04
import Derived.Deep.QuietTactic
import Derived.BigQuiet
import Derived.Test.YtcbebikcfcidmaaDoorChaZ01

namespace Go.Proofs.YtcbebikcfcidmaaDoor
open Go.RowKit

/-- divide answers as it should, of these two numbers, wherever they lie. -/
def Divides (na nb : Nat) : Prop := ∀ (a b : Option Addr) (ca cb : Nat) (w : World), (nrow na).length ≤ ca → (a = none → ca = 0) → (nrow nb).length ≤ cb → (b = none → cb = 0) → NatAt w a (nrow na) → NatAt w b (nrow nb) →
  Calls Tryd.prog 70 #[.slice a (nrow na).length ca, .slice b (nrow nb).length cb] w (DivideRes na nb w)
theorem divides_small {na nb : Nat} (hl : (nrow nb).length = 1) (hs : (nrow na).length ≤ 1099511627776) : Divides na nb := by
  intro a b ca cb w h1 h2 h3 h4 ma mb
  rcases Nat.eq_zero_or_pos (nrow na).length with h | h
  · exact divide_less a b ca cb na nb w (by omega) hs h1 h2 ma
  · exact divide_one a b ca cb na nb w hl h hs h1 h2 ma mb

def DivRes (na nb : Nat) (w : World) (e : Ending) (w' : World) : Prop :=
  ∃ q r, e = .returned (.tuple #[q, r, .int .i64 0]) ∧ NRow w.heap.size w' q (nrow (na / nb)) ∧ NRow w.heap.size w' r (nrow (na % nb)) ∧ Below w.heap.size w w'
section
variable {K K' : Nat} {w : World} {va vb : Value} {na nb : Nat}
set_option maxHeartbeats 1000000 in
theorem div_p (ha : NNum K w va na) (hb : NNum K' w vb nb) (hK : K ≤ 1099511627776) (hK' : K' ≤ 1099511627776) (hs : Short na) (hs' : Short nb) (h0 : nb ≠ 0) (hd0 : Divides na nb) : Calls Tryd.prog 58 #[va, vb] w (DivRes na nb w) := by
  have HT := Lib.hid (trim_v ha hK)
  have HT' := Lib.hid (trim_v hb hK')
  obtain ⟨a, ca, A, rfl, _, _, _, _, _, _⟩ := ha
  obtain ⟨b, cb, B, rfl, _, _, _, _, _, _⟩ := hb
  have hd : decide (2048 < (nrow na).length) = false := by simpa using hs
  have hd' : decide (2048 < (nrow nb).length) = false := by simpa using hs'
  obtain ⟨N, hN⟩ : ∃ N, N = (nrow nb).length := ⟨_, rfl⟩
  have hN0 : ((N : Int) == 0) = false := by
    have : N ≠ 0 := fun h => h0 (nrow_nil.1 (List.eq_nil_of_length_eq_zero (by rw [← hN]; exact h)))
    simp; exact this
  have HN := Lib.hid hN
  have HD := Lib.hid hd0
  clear hs hs' hN h0 hd0
  go_enter Tryd.func58, Tryd.ntmps58
  go_wp2_with fail
  refine HT.out.mono ?_
  rintro e w' ⟨v, rfl, hv, rfl⟩
  have HV := Lib.hid hv
  obtain ⟨a', ca', rfl, p1, p2, _⟩ := hv
  have P := Lib.hid (And.intro p1 p2)
  clear p1 p2
  go_wp2_with fail
  refine HT'.out.mono ?_
  rintro e w' ⟨v, rfl, hv, rfl⟩
  have HV' := Lib.hid hv
  obtain ⟨b', cb', rfl, p1, p2, _⟩ := hv
  have P' := Lib.hid (And.intro p1 p2)
  clear p1 p2
  go_wp2_with (first
    | (go_at_call 43; refine (long_two _ _ _ _ _ _ _ _).mono ?_; rw [hd, hd', ← HN.out]; rintro e w2 ⟨rfl, rfl⟩)
    | fail)
  have HB : Hid (Below w.heap.size w (w.alloc (.cells #[.slice a' (nrow na).length ca', .slice b' N cb'] 31))) := Lib.hid ((Below.refl _ _).alloc (Nat.le_refl _) _)
  obtain ⟨a2, ca2, e2, _, _, m2⟩ := HV.out.below HB.out
  obtain ⟨b2, cb2, e3, _, _, m3⟩ := HV'.out.below HB.out
  cases e2
  rw [← HN.out] at e3
  cases e3
  have c3 := HD.out a' b' ca' cb' _ P.out.1 P.out.2 P'.out.1 P'.out.2 m2 m3
  rw [← HN.out] at c3
  refine c3.mono ?_
  clear c3 m2 m3
  rintro e w2 ⟨q, r, rfl, hq, hr, hb2⟩
  have HQ := Lib.hid (hq.more (B' := w.heap.size) HB.out.size)
  have HR := Lib.hid (hr.more (B' := w.heap.size) HB.out.size)
  have HB2 := Lib.hid (HB.out.trans (hb2.mono HB.out.size))
  clear hq hr hb2
  go_wp2_with fail
  go_ret3
  exact ⟨q, r, rfl, HQ.out, HR.out, HB2.out⟩

end
end Go.Proofs.YtcbebikcfcidmaaDoor

namespace Go.Proofs.YtcbebikcfcidmaaDoor
open Go.RowKit

/-- What a call answers that changes nothing, but for draws. -/
def SameD (v : Value) (w : World) (e : Ending) (w' : World) : Prop := e = .returned v ∧ ∃ k, w' = w.drewN k
def LgAt (G : Nat) (x y : Value) : Prop := ∃ a b : Nat, x = .int .u64 (a : Int) ∧ y = .int .u64 (b : Int) ∧ a < 18446744073709551616 ∧ b < 18446744073709551616 ∧ Nat.gcd a b = G

set_option maxHeartbeats 1000000 in
theorem limbDivisor_any (a b : Nat) (ha : a < 18446744073709551616) (hb : b < 18446744073709551616) (w : World) :
    Calls Tryd.prog 68 #[.int .u64 (a : Int), .int .u64 (b : Int)] w (SameD (.int .u64 ((Nat.gcd a b : Nat) : Int)) w) := by
  obtain ⟨G, hG⟩ : ∃ G, G = Nat.gcd a b := ⟨_, rfl⟩
  rw [← hG]
  have H0 : Hid (LgAt G (.int .u64 (a : Int)) (.int .u64 (b : Int))) := Lib.hid ⟨a, b, rfl, rfl, ha, hb, hG.symm⟩
  clear hG ha hb
  go_enter Tryd.func68, Tryd.ntmps68
  go_wp2_with fail
  go_loopw [0, 1] (fun x y wr => LgAt G x y ∧ ∃ k, wr = w.drewN k) (fun _ y _ => (intOf y).toNat)
  case atStart => exact ⟨H0.out, 0, rfl⟩
  case round =>
    obtain ⟨⟨x, y, rfl, rfl, hx, hy, hg⟩, k, rfl⟩ := hrel
    by_cases h0 : y = 0
    · subst h0
      rw [Nat.gcd_zero_right] at hg
      have HG := Lib.hid hg
      clear hg
      go_wp2_with fail
      go_ret
      exact ⟨by rw [← HG.out]; rfl, k, rfl⟩
    · have y1 : (0 : Int) < (y : Int) := by omega
      have y2 : (y : Int) ≤ 18446744073709551615 := by omega
      have x0 : (0 : Int) ≤ (x : Int) := by omega
      have x2 : (x : Int) ≤ 18446744073709551615 := by omega
      have yb : ((y : Int) == 0) = false := by simp; exact h0
      obtain ⟨r, hr⟩ : ∃ r, r = x % y := ⟨_, rfl⟩
      have hrI : (x : Int) % (y : Int) = (r : Int) := by rw [hr]; simp
      have HN : Hid (Nat.gcd y r = G) := Lib.hid (by rw [hr, ← hg, Nat.gcd_comm y, ← Nat.gcd_rec, Nat.gcd_comm])
      have HL : Hid (r < y) := Lib.hid (by rw [hr]; exact Nat.mod_lt _ (by omega))
      have HRI := Lib.hid hrI
      clear hg hr hrI
      go_wp2_with fail
      go_quiet (fail)
      go_wp2_with fail
      go_roundw
      case rel => exact ⟨⟨y, r, rfl, by rw [HRI.out], hy, by have := HL.out; omega, HN.out⟩, _, by rw [World.drewN_drewN]⟩
      case measure => have := HL.out; have := HRI.out; simp [intOf]; omega

end Go.Proofs.YtcbebikcfcidmaaDoor

namespace Go.Proofs.YtcbebikcfcidmaaDoor
open Go.RowKit

def NextPost (B x y : Nat) (w : World) (e : Ending) (w' : World) : Prop :=
  ∃ va vb x' y', e = .returned (.tuple #[va, vb]) ∧ Nat.gcd x' y' = Nat.gcd x y ∧ y' ≤ x' ∧ x' ≤ x ∧ y' < y ∧ NRow B w' va (nrow x') ∧ NRow B w' vb (nrow y') ∧ va.ownBlock ≠ vb.ownBlock ∧ Below B w w'
/-- nextRests answers as it should. -/
def NextOK : Prop := ∀ (B : Nat) (w : World) (va vb : Value) (x y : Nat), Short x → y ≤ x → 1 < (nrow y).length → NRow B w va (nrow x) → NRow B w vb (nrow y) → va.ownBlock ≠ vb.ownBlock → B ≤ w.heap.size →
  Calls Tryd.prog 67 #[va, vb] w (NextPost B x y w)

/-- Two rests that follow each other. -/
def CdAt (G B : Nat) (w : World) (a b : Value) (wr : World) : Prop :=
  ∃ x y, Nat.gcd x y = G ∧ y ≤ x ∧ Short x ∧ (NextOK ∨ (nrow y).length ≤ 1) ∧ NRow B wr a (nrow x) ∧ NRow B wr b (nrow y) ∧ (a.ownBlock ≠ b.ownBlock ∨ y = 0) ∧ B ≤ wr.heap.size ∧ Below B w wr

theorem short_le {x y : Nat} (h : x ≤ y) (hs : Short y) : Short x := by
  unfold Short at *
  refine Nat.le_trans (nrow_length_le ?_) hs
  have := lv_lt (nrow_fits y)
  rw [lv_nrow] at this
  omega
theorem own_lt {B : Nat} {w : World} {v : Value} {L : List Nat} (h : NRow B w v L) {g : Nat} (hg : v.ownBlock = some g) : B ≤ g ∧ g < w.heap.size := World.ownsRow.lt h g hg
theorem one_limb {y : Nat} (h : (nrow y).length = 1) : nrow y = [y] ∧ 0 < y ∧ y < 18446744073709551616 := by
  rcases hr : nrow y with _ | ⟨x, _ | ⟨z, l⟩⟩
  · rw [hr] at h; simp at h
  · have hx : x = y := by have := lv_nrow y; rw [hr, lv_one] at this; exact this
    subst hx
    refine ⟨rfl, ?_, by have := nrow_fits x; rw [hr] at this; exact this x (by simp)⟩
    rcases Nat.eq_zero_or_pos x with h0 | h0
    · rw [h0, nrow_zero] at hr; simp at hr
    · exact h0
  · rw [hr] at h; simp at h

set_option maxRecDepth 100000 in
set_option maxHeartbeats 4000000 in
/-- What stands behind the loop of commonDivisor, and the loop. -/
theorem commonDivisor_core (a b : Option Addr) (ca cb na nb : Nat) (w : World) (hs : Short na) (hs' : Short nb) (h1 : (nrow na).length ≤ ca) (h2 : a = none → ca = 0) (h3 : (nrow nb).length ≤ cb) (h4 : b = none → cb = 0) (ma : NatAt w a (nrow na)) (mb : NatAt w b (nrow nb)) (hge : nb ≤ na) (hnx : NextOK ∨ (nrow nb).length ≤ 1) :
    Calls Tryd.prog 55 #[.slice a (nrow na).length ca, .slice b (nrow nb).length cb] w (OwnRes (nrow (Nat.gcd na nb)) w) := by
  have hcv : ¬ cmpV na nb < 0 := by
    rcases Nat.lt_or_ge nb na with h | h
    · rw [cmpV_gt h]; omega
    · rw [cmpV_eq (by omega)]; omega
  obtain ⟨cv, hcv0⟩ : ∃ cv, cv = cmpV na nb := ⟨_, rfl⟩
  rw [← hcv0] at hcv
  have hcmp := compare_any a b ca cb na nb w (by unfold Short at hs; omega) ma mb
  unfold CmpAnd at hcmp
  rw [← hcv0] at hcmp
  have HC := Lib.hid hcmp
  have HS := Lib.hid hs
  have HS' := Lib.hid hs'
  have P1 := Lib.hid (And.intro h1 h2)
  have P2 := Lib.hid (And.intro h3 h4)
  have MA := Lib.hid ma
  have MB := Lib.hid mb
  have HGE := Lib.hid hge
  have HNX := Lib.hid hnx
  obtain ⟨B, hB⟩ : ∃ B, B = w.heap.size := ⟨_, rfl⟩
  have HBB := Lib.hid hB
  clear hcmp hs hs' h1 h2 h3 h4 ma mb hge hnx hcv0 hB
  go_enter Tryd.func55, Tryd.ntmps55
  go_wp2_with fail
  refine HC.out.mono ?_
  rintro e w1 ⟨rfl, hb1⟩
  have HB1 := Lib.hid hb1
  clear hb1
  go_wp2_with fail
  refine (clone_any a ca (nrow na) w1 (by have := HS.out; unfold Short at this; omega) P1.out.1 P1.out.2 (MA.out.below HB1.out (Nat.le_refl _))).mono ?_
  rintro e w2 ⟨v, rfl, hr, hb2⟩
  have HB2 := Lib.hid (HB1.out.trans (hb2.mono HB1.out.size))
  have HR := Lib.hid hr
  obtain ⟨a1, a2, rfl, _, _, _⟩ := hr.at_
  clear hr hb2
  go_wp2_with fail
  refine (clone_any b cb (nrow nb) w2 (by have := HS'.out; unfold Short at this; omega) P2.out.1 P2.out.2 (MB.out.below HB2.out (Nat.le_refl _))).mono ?_
  rintro e w3 ⟨v, rfl, hr, hb3⟩
  have HB3 := Lib.hid (HB2.out.trans (hb3.mono HB2.out.size))
  have H0 : Hid (CdAt (Nat.gcd na nb) B w (.slice a1 (nrow na).length a2) v w3) := Lib.hid (by
    have hbb := HBB.out
    have hz1 := HB1.out.size
    have hz2 := HB2.out.size
    have hz3 := HB3.out.size
    refine ⟨na, nb, rfl, HGE.out, HS.out, HNX.out, (HR.out.below hb3 (Nat.le_refl _)).more (by omega), hr.more (by omega), ?_, by omega, by rw [hbb]; exact HB3.out⟩
    by_cases h0 : nb = 0
    · exact .inr h0
    · left
      intro e
      have hpos : 0 < (nrow nb).length := by
        rcases Nat.eq_zero_or_pos (nrow nb).length with h | h
        · exact absurd (nrow_nil.1 (List.eq_nil_of_length_eq_zero h)) h0
        · exact h
      obtain ⟨c1, c2, rfl, _, _, hat⟩ := hr.at_
      obtain ⟨g, off, rfl, _⟩ := hat 0 hpos
      have l1 := own_lt hr (g := g) rfl
      have l2 := own_lt HR.out (g := g) e
      omega)
  obtain ⟨b1, b2, rfl, _, _, _⟩ := hr.at_
  clear hr hb3
  go_wp2_with fail
  go_loopw [0, 1] (fun a b wr => CdAt (Nat.gcd na nb) B w a b wr) (fun _ b wr => toldBy 2048 wr b)
  case atStart => exact H0.out
  case round =>
    obtain ⟨x, y, hg, hyx, hsx, hnx, hra, hrb, hne, hsz, hbel⟩ := hrel
    have HG := Lib.hid hg
    have HYX := Lib.hid hyx
    have HSX := Lib.hid hsx
    have HN2 := Lib.hid hnx
    have HRA := Lib.hid hra
    have HRB := Lib.hid hrb
    have HNE := Lib.hid hne
    have HBEL := Lib.hid hbel
    have HSY := Lib.hid (short_le hyx hsx)
    obtain ⟨ra1, ra2, rfl, _, _, hata⟩ := hra.at_
    obtain ⟨rb1, rb2, rfl, _, _, hatb⟩ := hrb.at_
    obtain ⟨M, hM⟩ : ∃ M, M = (nrow y).length := ⟨_, rfl⟩
    have HM := Lib.hid hM
    rw [← hM]
    by_cases hbig : 1 < M
    · have hbI : (1 : Int) < (M : Int) := by omega
      have hnext : NextOK := HN2.out.resolve_right (by rw [← hM]; omega)
      have hy0 : y ≠ 0 := fun h => by rw [hM, h, nrow_zero] at hbig; simp at hbig
      have hc := hnext B wr _ _ x y HSX.out HYX.out (by rw [← hM]; exact hbig) HRA.out HRB.out (HNE.out.resolve_right hy0) hsz
      rw [← hM] at hc
      have HCN := Lib.hid hc
      have HNXT := Lib.hid hnext
      have HT : Hid (toldBy 2048 wr (.slice rb1 M rb2) = y) := Lib.hid (by
        refine toldBy_eq ?_
        have := HRB.out.num (K := 2048) (nrow_fits y) HSY.out
        rwa [lv_nrow, ← hM] at this)
      clear hg hyx hsx hnx hra hrb hne hbel hata hatb hM hnext hy0 hc
      go_wp2_with fail
      refine HCN.out.mono ?_
      rintro e w4 ⟨va, vb, x', y', rfl, hg, hyx, hxx, hyy, hra, hrb, hne, hb4⟩
      have HREL : Hid (CdAt (Nat.gcd na nb) B w va vb w4) := Lib.hid ⟨x', y', hg.trans HG.out, hyx, short_le hxx HSX.out, .inl HNXT.out, hra, hrb, .inl hne, Nat.le_trans hsz hb4.size, HBEL.out.trans hb4⟩
      have HT2 : Hid (toldBy 2048 w4 vb = y') := Lib.hid (by
        refine toldBy_eq ?_
        have := hrb.num (K := 2048) (nrow_fits y') (short_le (Nat.le_of_lt hyy) HSY.out)
        rwa [lv_nrow] at this)
      have HLT := Lib.hid hyy
      clear hg hyx hxx hyy hra hrb hne hb4
      go_wp2_with fail
      go_roundw
      case rel => exact HREL.out
      case measure =>
        have h1 := HT.out
        have h2 := HT2.out
        have h3 := HLT.out
        show toldBy 2048 w4 vb < toldBy 2048 wr (.slice rb1 M rb2)
        omega
    · have hbI : ¬ (1 : Int) < (M : Int) := by omega
      by_cases h0 : M = 0
      · have hy0 : y = 0 := nrow_nil.1 (List.eq_nil_of_length_eq_zero (by rw [← hM]; exact h0))
        have HGX : Hid (Nat.gcd na nb = x) := Lib.hid (by rw [← hg, hy0, Nat.gcd_zero_right])
        have hm0 : ((M : Int) == 0) = true := by rw [h0]; rfl
        clear hg hyx hsx hnx hra hrb hne hbel hata hatb hM hbig hy0 h0
        go_wp2_with fail
        go_ret
        have hbb := HBB.out
        subst hbb
        exact ⟨_, rfl, by rw [HGX.out]; exact HRA.out, HBEL.out⟩
      · have hm0 : ((M : Int) == 0) = false := by simp; exact h0
        have hM1 : M = 1 := by omega
        obtain ⟨hyr, hyp, hyb⟩ := one_limb (y := y) (by rw [← hM]; exact hM1)
        have hxp : 0 < (nrow x).length := by
          rcases Nat.eq_zero_or_pos (nrow x).length with h | h
          · have := nrow_nil.1 (List.eq_nil_of_length_eq_zero h); omega
          · exact h
        obtain ⟨gb, ob, rfl, hcb⟩ := hatb 0 (by omega)
        obtain ⟨ga, oa, rfl, _⟩ := hata 0 hxp
        obtain ⟨rfl, _, hgaB, _, _, hsga⟩ := hra.seg
        have hgab : gb ≠ ga := by
          rintro rfl
          exact hne.elim (fun h => h rfl) (fun h => by omega)
        rw [hyr, Nat.add_zero] at hcb
        have hcb' : wr.cell? ⟨gb, ob, none⟩ = some (.int .u64 (y : Int)) := hcb
        have hgbl : gb < wr.heap.size := World.block_lt_of_cell? wr _ hcb'
        have hby := divideByLimb_any ga 0 ra2 y (nrow x) wr.drew (by have := HSX.out; unfold Short at this; omega) (nrow_fits _) hyp hyb hsga.drew
        have HBY := Lib.hid hby
        have HGA := Lib.hid hgaB
        have HGAB := Lib.hid hgab
        have HGBL := Lib.hid hgbl
        have HYP := Lib.hid hyp
        clear hg hyx hsx hnx hra hrb hne hbel hata hatb hM hbig h0 hby hsga hcb hgaB hgab hyr hyp
        subst hM1
        go_wp2_with fail
        refine wp_region_walk (fun w' => w'.cell? ⟨gb, ob, none⟩ = some (.int .u64 (y : Int)))
          [true, true, true, true, true, true, true, false, false, false, true] (by kernel_rfl) (by kernel_rfl) rfl (by kernel_rfl) (fun _ _ d _ _ h => by cases d <;> exact h) ?_
        have hS : wr.drew.cell? ⟨gb, ob, none⟩ = some (.int .u64 (y : Int)) := hcb'
        obtain ⟨N, hN⟩ : ∃ N, N = (nrow x).length := ⟨_, rfl⟩
        have HN := Lib.hid hN
        rw [← hN] at HBY
        have HBY := Lib.hid HBY
        rw [← hN]
        clear hN
        repeat (refine walkS_yes hS rfl (fun w' hw' => by go_simp; rfl) ?_; simp only [Act.put, List.setIfInBounds_toArray, List.set_cons_zero, List.set_cons_succ])
        refine walkS_no rfl (fun K hK => ?_)
        go_simp
        refine HBY.out.mono ?_
        rintro e w5 ⟨O, r, rfl, hO, fO, hq, hr, hs5, hw5⟩
        refine hK _ _ ?_ ?_
        · exact (hw5.cell (b := gb) HGBL.out HGAB.out).trans hS
        clear hK K
        have hS5 : w5.cell? ⟨gb, ob, none⟩ = some (.int .u64 (y : Int)) := (hw5.cell (b := gb) HGBL.out HGAB.out).trans hS
        have hb5 : Below B w w5 := by
          exact (HBEL.out.drew).trans (hw5.below (w := wr.drew) hsz HGA.out)
        have hr64 : r < 18446744073709551616 := by rw [hr]; exact Nat.lt_trans (Nat.mod_lt _ HYP.out) hyb
        rw [lv_nrow] at hr
        have HGC : Hid (Nat.gcd y r = Nat.gcd na nb) := Lib.hid (by rw [← HG.out, hr, Nat.gcd_comm y (x % y), ← Nat.gcd_rec, Nat.gcd_comm])
        have HB5 := Lib.hid hb5
        have hgb5 : gb < w5.heap.size := World.block_lt_of_cell? w5 _ hS5
        clear hO fO hq hr hs5 hw5 hS hb5
        refine walkS_no rfl (fun K hK => ?_)
        go_simp
        refine (limbDivisor_any y r hyb hr64 w5).mono ?_
        rintro e w6 ⟨rfl, k, rfl⟩
        refine hK _ _ hS5 ?_
        clear hK K
        rw [HGC.out]
        have hg64 : Nat.gcd na nb < 18446744073709551616 := by
          rw [← HGC.out]
          exact Nat.lt_of_le_of_lt (Nat.gcd_le_left _ HYP.out) hyb
        refine walkS_no rfl (fun K hK => ?_)
        go_simp
        refine (of_any (Nat.gcd na nb) (w5.drewN k) hg64).mono ?_
        rintro e w7 ⟨v, rfl, hv, hb7⟩
        have hS7 : w7.cell? ⟨gb, ob, none⟩ = some (.int .u64 (y : Int)) := (hb7.cell (p := ⟨gb, ob, none⟩) hgb5).trans hS5
        refine hK _ _ hS7 ?_
        clear hK K
        have hbb := HBB.out
        have hz5 := HB5.out.size
        have HV := Lib.hid (hv.more (B' := w.heap.size) hz5)
        have HB7 : Hid (Below w.heap.size w w7) := Lib.hid (by
          have h5 := HB5.out
          rw [hbb] at h5
          exact (below_drewN h5 k).trans (hb7.mono hz5))
        clear hv hb7 hbb
        refine walkS_yes hS7 rfl (fun w' hw' => by go_simp; rfl) ?_
        simp only [Act.put, List.setIfInBounds_toArray, List.set_cons_zero, List.set_cons_succ]
        simp only [walkS]
        go_wp2
        go_ret
        exact ⟨v, rfl, HV.out, HB7.out⟩
set_option maxRecDepth 100000 in
set_option maxHeartbeats 4000000 in
/-- The same, the numbers exchanged. -/
theorem commonDivisor_swap (a b : Option Addr) (ca cb na nb : Nat) (w : World) (hs : Short na) (hs' : Short nb) (h1 : (nrow na).length ≤ ca) (h2 : a = none → ca = 0) (h3 : (nrow nb).length ≤ cb) (h4 : b = none → cb = 0) (ma : NatAt w a (nrow na)) (mb : NatAt w b (nrow nb)) (hge : nb < na) (hnx : NextOK ∨ (nrow nb).length ≤ 1) :
    Calls Tryd.prog 55 #[.slice b (nrow nb).length cb, .slice a (nrow na).length ca] w (OwnRes (nrow (Nat.gcd na nb)) w) := by
  have hcv : cmpV nb na < 0 := by rw [cmpV_lt hge]; omega
  obtain ⟨cv, hcv0⟩ : ∃ cv, cv = cmpV nb na := ⟨_, rfl⟩
  rw [← hcv0] at hcv
  have hcmp := compare_any b a cb ca nb na w (by unfold Short at hs'; omega) mb ma
  unfold CmpAnd at hcmp
  rw [← hcv0] at hcmp
  have HC := Lib.hid hcmp
  have HS := Lib.hid hs
  have HS' := Lib.hid hs'
  have P1 := Lib.hid (And.intro h1 h2)
  have P2 := Lib.hid (And.intro h3 h4)
  have MA := Lib.hid ma
  have MB := Lib.hid mb
  have HGE := Lib.hid (Nat.le_of_lt hge)
  have HNX := Lib.hid hnx
  obtain ⟨B, hB⟩ : ∃ B, B = w.heap.size := ⟨_, rfl⟩
  have HBB := Lib.hid hB
  clear hcmp hs hs' h1 h2 h3 h4 ma mb hge hnx hcv0 hB
  go_enter Tryd.func55, Tryd.ntmps55
  go_wp2_with fail
  refine HC.out.mono ?_
  rintro e w1 ⟨rfl, hb1⟩
  have HB1 := Lib.hid hb1
  clear hb1
  go_wp2_with fail
  refine (clone_any a ca (nrow na) w1 (by have := HS.out; unfold Short at this; omega) P1.out.1 P1.out.2 (MA.out.below HB1.out (Nat.le_refl _))).mono ?_
  rintro e w2 ⟨v, rfl, hr, hb2⟩
  have HB2 := Lib.hid (HB1.out.trans (hb2.mono HB1.out.size))
  have HR := Lib.hid hr
  obtain ⟨a1, a2, rfl, _, _, _⟩ := hr.at_
  clear hr hb2
  go_wp2_with fail
  refine (clone_any b cb (nrow nb) w2 (by have := HS'.out; unfold Short at this; omega) P2.out.1 P2.out.2 (MB.out.below HB2.out (Nat.le_refl _))).mono ?_
  rintro e w3 ⟨v, rfl, hr, hb3⟩
  have HB3 := Lib.hid (HB2.out.trans (hb3.mono HB2.out.size))
  have H0 : Hid (CdAt (Nat.gcd na nb) B w (.slice a1 (nrow na).length a2) v w3) := Lib.hid (by
    have hbb := HBB.out
    have hz1 := HB1.out.size
    have hz2 := HB2.out.size
    have hz3 := HB3.out.size
    refine ⟨na, nb, rfl, HGE.out, HS.out, HNX.out, (HR.out.below hb3 (Nat.le_refl _)).more (by omega), hr.more (by omega), ?_, by omega, by rw [hbb]; exact HB3.out⟩
    by_cases h0 : nb = 0
    · exact .inr h0
    · left
      intro e
      have hpos : 0 < (nrow nb).length := by
        rcases Nat.eq_zero_or_pos (nrow nb).length with h | h
        · exact absurd (nrow_nil.1 (List.eq_nil_of_length_eq_zero h)) h0
        · exact h
      obtain ⟨c1, c2, rfl, _, _, hat⟩ := hr.at_
      obtain ⟨g, off, rfl, _⟩ := hat 0 hpos
      have l1 := own_lt hr (g := g) rfl
      have l2 := own_lt HR.out (g := g) e
      omega)
  obtain ⟨b1, b2, rfl, _, _, _⟩ := hr.at_
  clear hr hb3
  go_wp2_with fail
  go_loopw [0, 1] (fun a b wr => CdAt (Nat.gcd na nb) B w a b wr) (fun _ b wr => toldBy 2048 wr b)
  case atStart => exact H0.out
  case round =>
    obtain ⟨x, y, hg, hyx, hsx, hnx, hra, hrb, hne, hsz, hbel⟩ := hrel
    have HG := Lib.hid hg
    have HYX := Lib.hid hyx
    have HSX := Lib.hid hsx
    have HN2 := Lib.hid hnx
    have HRA := Lib.hid hra
    have HRB := Lib.hid hrb
    have HNE := Lib.hid hne
    have HBEL := Lib.hid hbel
    have HSY := Lib.hid (short_le hyx hsx)
    obtain ⟨ra1, ra2, rfl, _, _, hata⟩ := hra.at_
    obtain ⟨rb1, rb2, rfl, _, _, hatb⟩ := hrb.at_
    obtain ⟨M, hM⟩ : ∃ M, M = (nrow y).length := ⟨_, rfl⟩
    have HM := Lib.hid hM
    rw [← hM]
    by_cases hbig : 1 < M
    · have hbI : (1 : Int) < (M : Int) := by omega
      have hnext : NextOK := HN2.out.resolve_right (by rw [← hM]; omega)
      have hy0 : y ≠ 0 := fun h => by rw [hM, h, nrow_zero] at hbig; simp at hbig
      have hc := hnext B wr _ _ x y HSX.out HYX.out (by rw [← hM]; exact hbig) HRA.out HRB.out (HNE.out.resolve_right hy0) hsz
      rw [← hM] at hc
      have HCN := Lib.hid hc
      have HNXT := Lib.hid hnext
      have HT : Hid (toldBy 2048 wr (.slice rb1 M rb2) = y) := Lib.hid (by
        refine toldBy_eq ?_
        have := HRB.out.num (K := 2048) (nrow_fits y) HSY.out
        rwa [lv_nrow, ← hM] at this)
      clear hg hyx hsx hnx hra hrb hne hbel hata hatb hM hnext hy0 hc
      go_wp2_with fail
      refine HCN.out.mono ?_
      rintro e w4 ⟨va, vb, x', y', rfl, hg, hyx, hxx, hyy, hra, hrb, hne, hb4⟩
      have HREL : Hid (CdAt (Nat.gcd na nb) B w va vb w4) := Lib.hid ⟨x', y', hg.trans HG.out, hyx, short_le hxx HSX.out, .inl HNXT.out, hra, hrb, .inl hne, Nat.le_trans hsz hb4.size, HBEL.out.trans hb4⟩
      have HT2 : Hid (toldBy 2048 w4 vb = y') := Lib.hid (by
        refine toldBy_eq ?_
        have := hrb.num (K := 2048) (nrow_fits y') (short_le (Nat.le_of_lt hyy) HSY.out)
        rwa [lv_nrow] at this)
      have HLT := Lib.hid hyy
      clear hg hyx hxx hyy hra hrb hne hb4
      go_wp2_with fail
      go_roundw
      case rel => exact HREL.out
      case measure =>
        have h1 := HT.out
        have h2 := HT2.out
        have h3 := HLT.out
        show toldBy 2048 w4 vb < toldBy 2048 wr (.slice rb1 M rb2)
        omega
    · have hbI : ¬ (1 : Int) < (M : Int) := by omega
      by_cases h0 : M = 0
      · have hy0 : y = 0 := nrow_nil.1 (List.eq_nil_of_length_eq_zero (by rw [← hM]; exact h0))
        have HGX : Hid (Nat.gcd na nb = x) := Lib.hid (by rw [← hg, hy0, Nat.gcd_zero_right])
        have hm0 : ((M : Int) == 0) = true := by rw [h0]; rfl
        clear hg hyx hsx hnx hra hrb hne hbel hata hatb hM hbig hy0 h0
        go_wp2_with fail
        go_ret
        have hbb := HBB.out
        subst hbb
        exact ⟨_, rfl, by rw [HGX.out]; exact HRA.out, HBEL.out⟩
      · have hm0 : ((M : Int) == 0) = false := by simp; exact h0
        have hM1 : M = 1 := by omega
        obtain ⟨hyr, hyp, hyb⟩ := one_limb (y := y) (by rw [← hM]; exact hM1)
        have hxp : 0 < (nrow x).length := by
          rcases Nat.eq_zero_or_pos (nrow x).length with h | h
          · have := nrow_nil.1 (List.eq_nil_of_length_eq_zero h); omega
          · exact h
        obtain ⟨gb, ob, rfl, hcb⟩ := hatb 0 (by omega)
        obtain ⟨ga, oa, rfl, _⟩ := hata 0 hxp
        obtain ⟨rfl, _, hgaB, _, _, hsga⟩ := hra.seg
        have hgab : gb ≠ ga := by
          rintro rfl
          exact hne.elim (fun h => h rfl) (fun h => by omega)
        rw [hyr, Nat.add_zero] at hcb
        have hcb' : wr.cell? ⟨gb, ob, none⟩ = some (.int .u64 (y : Int)) := hcb
        have hgbl : gb < wr.heap.size := World.block_lt_of_cell? wr _ hcb'
        have hby := divideByLimb_any ga 0 ra2 y (nrow x) wr.drew (by have := HSX.out; unfold Short at this; omega) (nrow_fits _) hyp hyb hsga.drew
        have HBY := Lib.hid hby
        have HGA := Lib.hid hgaB
        have HGAB := Lib.hid hgab
        have HGBL := Lib.hid hgbl
        have HYP := Lib.hid hyp
        clear hg hyx hsx hnx hra hrb hne hbel hata hatb hM hbig h0 hby hsga hcb hgaB hgab hyr hyp
        subst hM1
        go_wp2_with fail
        refine wp_region_walk (fun w' => w'.cell? ⟨gb, ob, none⟩ = some (.int .u64 (y : Int)))
          [true, true, true, true, true, true, true, false, false, false, true] (by kernel_rfl) (by kernel_rfl) rfl (by kernel_rfl) (fun _ _ d _ _ h => by cases d <;> exact h) ?_
        have hS : wr.drew.cell? ⟨gb, ob, none⟩ = some (.int .u64 (y : Int)) := hcb'
        obtain ⟨N, hN⟩ : ∃ N, N = (nrow x).length := ⟨_, rfl⟩
        have HN := Lib.hid hN
        rw [← hN] at HBY
        have HBY := Lib.hid HBY
        rw [← hN]
        clear hN
        repeat (refine walkS_yes hS rfl (fun w' hw' => by go_simp; rfl) ?_; simp only [Act.put, List.setIfInBounds_toArray, List.set_cons_zero, List.set_cons_succ])
        refine walkS_no rfl (fun K hK => ?_)
        go_simp
        refine HBY.out.mono ?_
        rintro e w5 ⟨O, r, rfl, hO, fO, hq, hr, hs5, hw5⟩
        refine hK _ _ ?_ ?_
        · exact (hw5.cell (b := gb) HGBL.out HGAB.out).trans hS
        clear hK K
        have hS5 : w5.cell? ⟨gb, ob, none⟩ = some (.int .u64 (y : Int)) := (hw5.cell (b := gb) HGBL.out HGAB.out).trans hS
        have hb5 : Below B w w5 := by
          exact (HBEL.out.drew).trans (hw5.below (w := wr.drew) hsz HGA.out)
        have hr64 : r < 18446744073709551616 := by rw [hr]; exact Nat.lt_trans (Nat.mod_lt _ HYP.out) hyb
        rw [lv_nrow] at hr
        have HGC : Hid (Nat.gcd y r = Nat.gcd na nb) := Lib.hid (by rw [← HG.out, hr, Nat.gcd_comm y (x % y), ← Nat.gcd_rec, Nat.gcd_comm])
        have HB5 := Lib.hid hb5
        have hgb5 : gb < w5.heap.size := World.block_lt_of_cell? w5 _ hS5
        clear hO fO hq hr hs5 hw5 hS hb5
        refine walkS_no rfl (fun K hK => ?_)
        go_simp
        refine (limbDivisor_any y r hyb hr64 w5).mono ?_
        rintro e w6 ⟨rfl, k, rfl⟩
        refine hK _ _ hS5 ?_
        clear hK K
        rw [HGC.out]
        have hg64 : Nat.gcd na nb < 18446744073709551616 := by
          rw [← HGC.out]
          exact Nat.lt_of_le_of_lt (Nat.gcd_le_left _ HYP.out) hyb
        refine walkS_no rfl (fun K hK => ?_)
        go_simp
        refine (of_any (Nat.gcd na nb) (w5.drewN k) hg64).mono ?_
        rintro e w7 ⟨v, rfl, hv, hb7⟩
        have hS7 : w7.cell? ⟨gb, ob, none⟩ = some (.int .u64 (y : Int)) := (hb7.cell (p := ⟨gb, ob, none⟩) hgb5).trans hS5
        refine hK _ _ hS7 ?_
        clear hK K
        have hbb := HBB.out
        have hz5 := HB5.out.size
        have HV := Lib.hid (hv.more (B' := w.heap.size) hz5)
        have HB7 : Hid (Below w.heap.size w w7) := Lib.hid (by
          have h5 := HB5.out
          rw [hbb] at h5
          exact (below_drewN h5 k).trans (hb7.mono hz5))
        clear hv hb7 hbb
        refine walkS_yes hS7 rfl (fun w' hw' => by go_simp; rfl) ?_
        simp only [Act.put, List.setIfInBounds_toArray, List.set_cons_zero, List.set_cons_succ]
        simp only [walkS]
        go_wp2
        go_ret
        exact ⟨v, rfl, HV.out, HB7.out⟩

theorem commonDivisor_any (a b : Option Addr) (ca cb na nb : Nat) (w : World) (hs : Short na) (hs' : Short nb) (h1 : (nrow na).length ≤ ca) (h2 : a = none → ca = 0) (h3 : (nrow nb).length ≤ cb) (h4 : b = none → cb = 0) (ma : NatAt w a (nrow na)) (mb : NatAt w b (nrow nb))
    (hnx : NextOK ∨ (nrow na).length ≤ 1 ∨ (nrow nb).length ≤ 1) :
    Calls Tryd.prog 55 #[.slice a (nrow na).length ca, .slice b (nrow nb).length cb] w (OwnRes (nrow (Nat.gcd na nb)) w) := by
  rcases Nat.lt_or_ge na nb with h | h
  · have hl : (nrow na).length ≤ (nrow nb).length := nrow_length_le (by have := lv_lt (nrow_fits nb); rw [lv_nrow] at this; omega)
    rw [Nat.gcd_comm]
    exact commonDivisor_swap b a cb ca nb na w hs' hs h3 h4 h1 h2 mb ma h (by rcases hnx with h | h | h; exact .inl h; exact .inr h; exact .inr (by omega))
  · have hl : (nrow nb).length ≤ (nrow na).length := nrow_length_le (by have := lv_lt (nrow_fits na); rw [lv_nrow] at this; omega)
    exact commonDivisor_core a b ca cb na nb w hs hs' h1 h2 h3 h4 ma mb h (by rcases hnx with h | h | h; exact .inl h; exact .inr (by omega); exact .inr h)

section
variable {K K' : Nat} {w : World} {va vb : Value} {na nb : Nat}
set_option maxHeartbeats 1000000 in
theorem gcd_p (ha : NNum K w va na) (hb : NNum K' w vb nb) (hK : K ≤ 1099511627776) (hK' : K' ≤ 1099511627776) (hs : Short na) (hs' : Short nb) (hnx : NextOK ∨ (nrow na).length ≤ 1 ∨ (nrow nb).length ≤ 1) : Calls Tryd.prog 39 #[va, vb] w (ERes w.heap.size (Nat.gcd na nb) w) := by
  have HT := Lib.hid (trim_v ha hK)
  have HT' := Lib.hid (trim_v hb hK')
  obtain ⟨a, ca, A, rfl, _, _, _, _, _, _⟩ := ha
  obtain ⟨b, cb, B, rfl, _, _, _, _, _, _⟩ := hb
  have hd : decide (2048 < (nrow na).length) = false := by simpa using hs
  have hd' : decide (2048 < (nrow nb).length) = false := by simpa using hs'
  have HS := Lib.hid hs
  have HS' := Lib.hid hs'
  have HNX := Lib.hid hnx
  clear hs hs' hnx
  go_enter Tryd.func39, Tryd.ntmps39
  go_wp2_with fail
  refine HT.out.mono ?_
  rintro e w' ⟨v, rfl, hv, rfl⟩
  have HV := Lib.hid hv
  obtain ⟨a', ca', rfl, p1, p2, _⟩ := hv
  have P := Lib.hid (And.intro p1 p2)
  clear p1 p2
  go_wp2_with fail
  refine HT'.out.mono ?_
  rintro e w' ⟨v, rfl, hv, rfl⟩
  have HV' := Lib.hid hv
  obtain ⟨b', cb', rfl, p1, p2, _⟩ := hv
  have P' := Lib.hid (And.intro p1 p2)
  clear p1 p2
  go_wp2_with (first
    | (go_at_call 43; refine (long_two _ _ _ _ _ _ _ _).mono ?_; rw [hd, hd']; rintro e w2 ⟨rfl, rfl⟩)
    | fail)
  have HB : Hid (Below w.heap.size w (w.alloc (.cells #[.slice a' (nrow na).length ca', .slice b' (nrow nb).length cb'] 31))) := Lib.hid ((Below.refl _ _).alloc (Nat.le_refl _) _)
  obtain ⟨a2, ca2, e2, _, _, m2⟩ := HV.out.below HB.out
  obtain ⟨b2, cb2, e3, _, _, m3⟩ := HV'.out.below HB.out
  cases e2
  cases e3
  refine ((commonDivisor_any a' b' ca' cb' na nb _ HS.out HS'.out P.out.1 P.out.2 P'.out.1 P'.out.2 m2 m3 HNX.out).mono (fun e w2 h => h.more HB.out)).mono ?_
  clear m2 m3
  rintro e w2 ⟨v, rfl, hr, hb2⟩
  have HR := Lib.hid hr
  have HB2 := Lib.hid hb2
  clear hr hb2
  go_wp2_with fail
  go_ret2
  exact ⟨v, rfl, HR.out, HB2.out⟩
end
end Go.Proofs.YtcbebikcfcidmaaDoor

namespace Go.Proofs.YtcbebikcfcidmaaDoor

/-- What the top limbs X of T and V of D tell of the quotient. -/
theorem guess_bounds {T D n E X V tl dl : Nat} (hT : T = tl + E * X) (hD : D = dl + E * V) (htl : tl < E) (hdl : dl < E) (hn : n * D ≤ T) (hn1 : T < (n + 1) * D) :
    n * V ≤ X ∧ X < (n + 1) * (V + 1) := by
  have hE : 0 < E := by omega
  constructor
  · have h1 : E * (n * V) ≤ n * D := by
      rw [hD, Nat.mul_add, ← Nat.mul_assoc n E V, Nat.mul_comm n E, Nat.mul_assoc]; omega
    have h2 : E * (n * V) < E * (X + 1) := by rw [Nat.mul_add, Nat.mul_one]; omega
    have := Nat.lt_of_mul_lt_mul_left h2
    omega
  · have h1 : D ≤ E * (V + 1) := by rw [hD, Nat.mul_add, Nat.mul_one]; omega
    have h2 := Nat.mul_le_mul_left (n + 1) h1
    have h3 : E * X < E * ((n + 1) * (V + 1)) := by
      rw [← Nat.mul_assoc E (n + 1), Nat.mul_comm E (n + 1), Nat.mul_assoc]; omega
    exact Nat.lt_of_mul_lt_mul_left h3
theorem guess_top {n X V t0 t1 d0 d1 B : Nat} (hX : X = t0 + B * (t1 + B * d1)) (hV : V = d0 + B * d1) (hd0 : d0 < B) (hd : B ≤ 2 * d1) (h2 : X < (n + 1) * (V + 1)) (hB : 2 ≤ B) : B - 1 ≤ n + 1 := by
  rcases Nat.lt_or_ge n (B - 2) with h | h
  · exfalso
    have h3 : V + 1 ≤ B * (d1 + 1) := by rw [hV, Nat.mul_add, Nat.mul_one]; omega
    have h4 := Nat.mul_le_mul (show n + 1 ≤ B - 2 by omega) h3
    have h5 : B * (B * d1) ≤ X := by rw [hX, Nat.mul_add]; omega
    have h6 : B * (B * d1) < B * ((B - 2) * (d1 + 1)) := by
      rw [← Nat.mul_assoc B (B - 2), Nat.mul_comm B (B - 2), Nat.mul_assoc]; omega
    have h7 := Nat.lt_of_mul_lt_mul_left h6
    rw [Nat.mul_add, Nat.mul_one, Nat.sub_mul] at h7
    have h8 : 2 * d1 ≤ B * d1 := Nat.mul_le_mul_right _ hB
    omega
  · omega
theorem guess_two {n X V t0 t1 t2 d0 d1 q l B : Nat} (hX : X = t0 + B * (t1 + B * t2)) (hV : V = d0 + B * d1) (ht0 : t0 < B) (hd0 : d0 < B) (hd : B ≤ 2 * d1) (hnB : n < B)
    (h1 : n * V ≤ X) (h2 : X < (n + 1) * (V + 1)) (hq : t1 + B * t2 = d1 * q + l) (hl : l < d1) :
    (l * B + t0 < q * d0 → n + 1 ≤ q ∧ q ≤ n + 2) ∧ (q * d0 ≤ l * B + t0 → n ≤ q ∧ q ≤ n + 1) := by
  have hqV : q * V + l * B + t0 = X + q * d0 := by
    rw [hX, hV, hq, Nat.mul_add, Nat.mul_add, ← Nat.mul_assoc q B, Nat.mul_comm q B, Nat.mul_assoc, Nat.mul_comm q d1, Nat.mul_comm l B]; omega
  constructor
  · intro h
    have h3 : X < q * V := by omega
    have h4 : n < q := by
      have : n * V < q * V := by omega
      exact Nat.lt_of_mul_lt_mul_right this
    refine ⟨by omega, ?_⟩
    rcases Nat.lt_or_ge q (n + 3) with h5 | h5
    · omega
    · exfalso
      have h6 : V + 1 ≤ B * (d1 + 1) := by rw [hV, Nat.mul_add, Nat.mul_one]; omega
      have h7 := Nat.mul_le_mul_left (n + 1) h6
      have h8 : B * (d1 * q) ≤ X := by rw [hX, hq, Nat.mul_add]; omega
      have h9 : B * (d1 * q) < B * ((n + 1) * (d1 + 1)) := by
        rw [← Nat.mul_assoc B (n + 1), Nat.mul_comm B (n + 1), Nat.mul_assoc]; omega
      have h10 := Nat.lt_of_mul_lt_mul_left h9
      have h11 := Nat.mul_le_mul_left d1 h5
      rw [Nat.mul_add] at h11
      rw [Nat.add_mul, Nat.one_mul, Nat.mul_add, Nat.mul_one, Nat.mul_comm n d1] at h10
      omega
  · intro h
    have h3 : q * V ≤ X := by omega
    constructor
    · rcases Nat.lt_or_ge q n with h4 | h4
      · exfalso
        have h5 : B * (n * d1) ≤ n * V := by
          rw [hV, Nat.mul_add, ← Nat.mul_assoc n B, Nat.mul_comm n B, Nat.mul_assoc]; omega
        have h6 := Nat.mul_le_mul_right d1 (show q + 1 ≤ n by omega)
        have h7 : d1 * q + d1 ≤ n * d1 := by rw [Nat.add_mul, Nat.one_mul, Nat.mul_comm q d1] at h6; exact h6
        have h8 : B * (d1 * q + l + 1) ≤ B * (n * d1) := Nat.mul_le_mul_left B (by omega)
        rw [Nat.mul_add B _ 1, Nat.mul_one] at h8
        rw [hq] at hX
        omega
      · exact h4
    · rcases Nat.lt_or_ge q (n + 2) with h4 | h4
      · omega
      · exfalso
        have h5 := Nat.mul_le_mul_right V h4
        rw [Nat.add_mul] at h5
        rw [Nat.add_mul, Nat.one_mul, Nat.mul_add, Nat.mul_one] at h2
        have h6 : B * 1 ≤ B * d1 := Nat.mul_le_mul_left B (by omega)
        omega
end Go.Proofs.YtcbebikcfcidmaaDoor

namespace Go.Proofs.YtcbebikcfcidmaaDoor
open Go.RowKit

theorem lv_top2 {B : List Nat} {P : Nat} (h : B.length = P + 2) : lv B = lv (B.take P) + 2 ^ (64 * P) * (B.getD P 0 + 18446744073709551616 * B.getD (P + 1) 0) := by
  rw [← List.take_append_drop P B, lv_append]
  have hl : (B.take P).length = P := by rw [List.length_take]; omega
  rw [hl, List.take_append_drop]
  have hd : B.drop P = [B.getD P 0, B.getD (P + 1) 0] := by
    rw [List.drop_eq_getElem_cons (by omega), List.drop_eq_getElem_cons (by omega), List.drop_eq_nil_of_le (by omega)]
    simp [List.getD_eq_getElem?_getD, h]
  rw [hd]
  simp [lv]
theorem lv_top3 {A : List Nat} {P : Nat} (h : A.length = P + 3) : lv A = lv (A.take P) + 2 ^ (64 * P) * (A.getD P 0 + 18446744073709551616 * (A.getD (P + 1) 0 + 18446744073709551616 * A.getD (P + 2) 0)) := by
  rw [← List.take_append_drop P A, lv_append]
  have hl : (A.take P).length = P := by rw [List.length_take]; omega
  rw [hl, List.take_append_drop]
  have hd : A.drop P = [A.getD P 0, A.getD (P + 1) 0, A.getD (P + 2) 0] := by
    rw [List.drop_eq_getElem_cons (by omega), List.drop_eq_getElem_cons (by omega), List.drop_eq_getElem_cons (by omega), List.drop_eq_nil_of_le (by omega)]
    simp [List.getD_eq_getElem?_getD, h]
  rw [hd]
  simp [lv]
/-- What the limbs tell of the digit. -/
theorem guess_lv {A B : List Nat} {P : Nat} (hA : A.length = P + 3) (hB : B.length = P + 2) (fA : Fits A) (fB : Fits B) (htop : 9223372036854775808 ≤ B.getD (P + 1) 0) (hlt : lv A < 18446744073709551616 * lv B) :
    lv A / lv B < 18446744073709551616 ∧ A.getD (P + 2) 0 ≤ B.getD (P + 1) 0 ∧
    (A.getD (P + 2) 0 = B.getD (P + 1) 0 → 18446744073709551615 ≤ lv A / lv B + 1) ∧
    (∀ q l, A.getD (P + 1) 0 + 18446744073709551616 * A.getD (P + 2) 0 = B.getD (P + 1) 0 * q + l → l < B.getD (P + 1) 0 →
      (l * 18446744073709551616 + A.getD P 0 < q * B.getD P 0 → lv A / lv B + 1 ≤ q ∧ q ≤ lv A / lv B + 2) ∧ (q * B.getD P 0 ≤ l * 18446744073709551616 + A.getD P 0 → lv A / lv B ≤ q ∧ q ≤ lv A / lv B + 1)) := by
  have hA3 := lv_top3 hA
  have hB2 := lv_top2 hB
  have hEa : lv (A.take P) < 2 ^ (64 * P) := by have := lv_lt (fits_take fA P); rw [List.length_take] at this; rwa [Nat.min_eq_left (by omega)] at this
  have hEb : lv (B.take P) < 2 ^ (64 * P) := by have := lv_lt (fits_take fB P); rw [List.length_take] at this; rwa [Nat.min_eq_left (by omega)] at this
  have hd0 := getD_fits fB P
  have ht0 := getD_fits fA P
  have hd1 := getD_fits fB (P + 1)
  have hE : 0 < 2 ^ (64 * P) := Nat.two_pow_pos _
  have hD0 : 0 < lv B := by
    rw [hB2]
    have : 2 ^ (64 * P) * 1 ≤ 2 ^ (64 * P) * (B.getD P 0 + 18446744073709551616 * B.getD (P + 1) 0) := Nat.mul_le_mul_left _ (by omega)
    omega
  have hn : lv A / lv B < 18446744073709551616 := by rw [Nat.div_lt_iff_lt_mul hD0]; exact hlt
  have hq1 : lv A / lv B * lv B ≤ lv A := Nat.div_mul_le_self _ _
  have hq2 : lv A < (lv A / lv B + 1) * lv B := by
    have := Nat.div_add_mod' (lv A) (lv B); have h2 := Nat.mod_lt (lv A) hD0
    rw [Nat.add_mul, Nat.one_mul]; omega
  have hb := guess_bounds hA3 hB2 hEa hEb hq1 hq2
  refine ⟨hn, ?_, fun e => ?_, fun q l hq hl => ?_⟩
  · rcases Nat.lt_or_ge (B.getD (P + 1) 0) (A.getD (P + 2) 0) with h | h
    · exfalso
      have h1 : B.getD P 0 + 18446744073709551616 * B.getD (P + 1) 0 + 1 ≤ 18446744073709551616 * (B.getD (P + 1) 0 + 1) := by omega
      have h2 : lv B < 2 ^ (64 * P) * (18446744073709551616 * (B.getD (P + 1) 0 + 1)) := by
        have := Nat.mul_le_mul_left (2 ^ (64 * P)) h1
        rw [Nat.mul_add _ _ 1, Nat.mul_one] at this
        omega
      have h3 : 2 ^ (64 * P) * (18446744073709551616 * (18446744073709551616 * A.getD (P + 2) 0)) ≤ lv A := by
        rw [hA3, Nat.mul_add 18446744073709551616, Nat.mul_add (2 ^ (64 * P)), Nat.mul_add (2 ^ (64 * P))]; omega
      have h4 : 2 ^ (64 * P) * (18446744073709551616 * (18446744073709551616 * (B.getD (P + 1) 0 + 1))) ≤ 2 ^ (64 * P) * (18446744073709551616 * (18446744073709551616 * A.getD (P + 2) 0)) :=
        Nat.mul_le_mul_left _ (Nat.mul_le_mul_left _ (Nat.mul_le_mul_left _ h))
      rw [show 2 ^ (64 * P) * (18446744073709551616 * (18446744073709551616 * (B.getD (P + 1) 0 + 1))) = 18446744073709551616 * (2 ^ (64 * P) * (18446744073709551616 * (B.getD (P + 1) 0 + 1))) by
        rw [← Nat.mul_assoc (2 ^ (64 * P)), Nat.mul_comm (2 ^ (64 * P)), Nat.mul_assoc]] at h4
      omega
    · exact h
  · rw [e] at hb
    exact guess_top (B := 18446744073709551616) rfl rfl hd0 (by omega) hb.2 (by omega)
  · exact guess_two (B := 18446744073709551616) rfl rfl ht0 hd0 (by omega) hn hb.1 hb.2 hq hl

def GuessPost (n : Nat) (w : World) (e : Ending) (w' : World) : Prop := ∃ g : Nat, e = .returned (.int .u64 (g : Int)) ∧ n ≤ g ∧ g ≤ n + 1 ∧ g < 18446744073709551616 ∧ ∃ k, w' = w.drewN k

set_option maxRecDepth 100000 in
set_option maxHeartbeats 2000000 in
theorem guess_any (ga oa gb ob P ca cb : Nat) (A B : List Nat) (w : World) (hA : A.length = P + 3) (hB : B.length = P + 2) (hP : P ≤ 1048576) (fA : Fits A) (fB : Fits B) (hca : A.length ≤ ca) (hcb : B.length ≤ cb)
    (ma : NatAt w (some ⟨ga, oa, none⟩) A) (mb : NatAt w (some ⟨gb, ob, none⟩) B) (htop : 9223372036854775808 ≤ B.getD (P + 1) 0) (hlt : lv A < 18446744073709551616 * lv B) :
    Calls Tryd.prog 96 #[.slice (some ⟨ga, oa, none⟩) A.length ca, .slice (some ⟨gb, ob, none⟩) B.length cb] w (GuessPost (lv A / lv B) w) := by
  obtain ⟨hn, hle, heq, htwo⟩ := guess_lv hA hB fA fB htop hlt
  obtain ⟨La, hLa⟩ : ∃ La, La = A.length := ⟨_, rfl⟩
  obtain ⟨Lb, hLb⟩ : ∃ Lb, Lb = B.length := ⟨_, rfl⟩
  have hc0 : w.cell? ⟨ga, oa + P, none⟩ = some (.int .u64 ((A.getD P 0 : Nat) : Int)) := by obtain ⟨b', o', e', hc⟩ := ma P (by omega); cases e'; exact hc
  have hc1 : w.cell? ⟨ga, oa + P + 1, none⟩ = some (.int .u64 ((A.getD (P + 1) 0 : Nat) : Int)) := by obtain ⟨b', o', e', hc⟩ := ma (P + 1) (by omega); cases e'; exact hc
  have hc2 : w.cell? ⟨ga, oa + P + 2, none⟩ = some (.int .u64 ((A.getD (P + 2) 0 : Nat) : Int)) := by obtain ⟨b', o', e', hc⟩ := ma (P + 2) (by omega); cases e'; exact hc
  have hd0 : w.cell? ⟨gb, ob + P, none⟩ = some (.int .u64 ((B.getD P 0 : Nat) : Int)) := by obtain ⟨b', o', e', hc⟩ := mb P (by omega); cases e'; exact hc
  have hd1 : w.cell? ⟨gb, ob + P + 1, none⟩ = some (.int .u64 ((B.getD (P + 1) 0 : Nat) : Int)) := by obtain ⟨b', o', e', hc⟩ := mb (P + 1) (by omega); cases e'; exact hc
  have bt0 := getD_fits fA P
  have bt1 := getD_fits fA (P + 1)
  have bt2 := getD_fits fA (P + 2)
  have bd0 := getD_fits fB P
  have bd1 := getD_fits fB (P + 1)
  generalize lv A / lv B = n at hn heq htwo ⊢
  generalize A.getD P 0 = t0 at *
  generalize A.getD (P + 1) 0 = t1 at *
  generalize A.getD (P + 2) 0 = t2 at *
  generalize B.getD P 0 = d0 at *
  generalize B.getD (P + 1) 0 = d1 at *
  rw [← hLa, ← hLb]
  have hAI : (La : Int) - 3 = (P : Int) := by omega
  have hBI : (Lb : Int) - 2 = (P : Int) := by omega
  have hP0 : (0 : Int) ≤ (P : Int) := by omega
  have hPa : (P : Int) ≤ (La : Int) := by omega
  have hPb : (P : Int) ≤ (Lb : Int) := by omega
  have hLca : (La : Int) ≤ (ca : Int) := by omega
  have hLcb : (Lb : Int) ≤ (cb : Int) := by omega
  have hA3 : La - P = 3 := by omega
  have hB3 : Lb - P = 2 := by omega
  have hLa9 : (La : Int) ≤ 1048579 := by omega
  have hLb9 : (Lb : Int) ≤ 1048578 := by omega
  clear ma mb fA fB hA hB hca hcb hlt hLa hLb hP
  by_cases ht : t2 = d1
  · subst ht
    have HG := Lib.hid (heq rfl)
    have HN := Lib.hid hn
    have hb : ((t2 : Int) == (t2 : Int)) = true := by simp
    clear heq htwo hle hn
    go_enter Tryd.func96, Tryd.ntmps96
    go_wp2_with fail
    go_region
    go_wp2_with fail
    go_region
    go_wp2_with fail
    go_ret
    exact ⟨18446744073709551615, rfl, by have := HN.out; omega, HG.out, by omega, 2, rfl⟩
  · have hlt : t2 < d1 := by omega
    have hb : ((t2 : Int) == (d1 : Int)) = false := by simp; omega
    have HD := Lib.hid (fun W => div64_any t2 t1 d1 bt1 bd1 hlt W)
    have hdm := Nat.div_add_mod (t2 * 18446744073709551616 + t1) d1
    have hml := Nat.mod_lt (t2 * 18446744073709551616 + t1) (show 0 < d1 by omega)
    have hqb : (t2 * 18446744073709551616 + t1) / d1 < 18446744073709551616 := by
      rw [Nat.div_lt_iff_lt_mul (by omega)]
      have : (t2 + 1) * 18446744073709551616 ≤ d1 * 18446744073709551616 := Nat.mul_le_mul_right _ hlt
      rw [Nat.mul_comm 18446744073709551616]
      omega
    obtain ⟨q, hq⟩ : ∃ q, q = (t2 * 18446744073709551616 + t1) / d1 := ⟨_, rfl⟩
    obtain ⟨l, hl⟩ : ∃ l, l = (t2 * 18446744073709551616 + t1) % d1 := ⟨_, rfl⟩
    rw [← hq] at hdm hqb
    rw [← hl] at hdm hml
    have HQ := Lib.hid hq
    have HL := Lib.hid hl
    have hll : l < 18446744073709551616 := by omega
    have htw := htwo q l (by omega) hml
    have hm := mul_small hqb bd0
    have HM := Lib.hid (fun W => Tryd.bits_Mul64 q d0 hqb bd0 W)
    obtain ⟨hi, hhi⟩ : ∃ hi, hi = q * d0 / 18446744073709551616 := ⟨_, rfl⟩
    obtain ⟨lo, hlo⟩ : ∃ lo, lo = q * d0 % 18446744073709551616 := ⟨_, rfl⟩
    rw [← hhi, ← hlo] at HM
    have HM := Lib.hid HM.out
    have hqd : q * d0 = hi * 18446744073709551616 + lo := by omega
    have hlo64 : lo < 18446744073709551616 := by omega
    have hhi64 : hi < 18446744073709551616 := by omega
    rw [hqd] at htw
    have HTW := Lib.hid htw
    clear hdm hq hl heq htwo hle htw hm hhi hlo hqd
    have tail : ∀ (W : World) (k : Nat), W = w.drewN k → True := fun _ _ _ => trivial
    clear tail
    go_enter Tryd.func96, Tryd.ntmps96
    go_wp2_with fail
    go_region
    go_wp2_with fail
    go_region
    go_wp2_with fail
    refine wp_region_walk (fun w' => w'.cell? ⟨ga, oa + P + 1, none⟩ = some (.int .u64 (t1 : Int)) ∧ w'.cell? ⟨ga, oa + P + 2, none⟩ = some (.int .u64 (t2 : Int)) ∧ w'.cell? ⟨gb, ob + P + 1, none⟩ = some (.int .u64 (d1 : Int)))
      [true, true, true, true, true, true, true, true, true, false, true, true, true, true, true] (by kernel_rfl) (by kernel_rfl) rfl (by kernel_rfl) (fun _ _ d _ _ h => by cases d <;> exact h) ?_
    repeat (refine walkS_yes ⟨hc1, hc2, hd1⟩ rfl (fun w' hw' => by obtain ⟨q0, q1, q2⟩ := hw'; go_simp; rfl) ?_; simp only [Act.put, List.setIfInBounds_toArray, List.set_cons_zero, List.set_cons_succ])
    refine walkS_no rfl (fun K hK => ?_)
    go_simp
    refine (HD.out _).mono ?_
    rintro e w5 ⟨q', l', rfl, hq', hl', k, rfl⟩
    rw [← HQ.out] at hq'
    rw [← HL.out] at hl'
    subst hq' hl'
    refine hK _ _ ⟨hc1, hc2, hd1⟩ ?_
    clear hK K
    repeat (refine walkS_yes ⟨hc1, hc2, hd1⟩ rfl (fun w' hw' => by obtain ⟨q0, q1, q2⟩ := hw'; go_simp; rfl) ?_; simp only [Act.put, List.setIfInBounds_toArray, List.set_cons_zero, List.set_cons_succ])
    simp only [walkS]
    have HTQ : Hid ((l' * 18446744073709551616 + t0 < hi * 18446744073709551616 + lo → n + 1 ≤ q' ∧ q' ≤ n + 2) ∧ (hi * 18446744073709551616 + lo ≤ l' * 18446744073709551616 + t0 → n ≤ q' ∧ q' ≤ n + 1)) := HTW
    have HQB := Lib.hid hqb
    clear hn ht hlt hb
    rcases Nat.lt_trichotomy l' hi with h | h | h
    · have g1 : decide ((l' : Int) < (hi : Int)) = true := by simp; omega
      obtain ⟨q1, hq1⟩ : ∃ q1, q' = q1 + 1 := ⟨q' - 1, by have := (HTQ.out.1 (by omega)).1; omega⟩
      have hqi : (q' : Int) - 1 = (q1 : Int) := by omega
      have hq2 : (1 : Int) ≤ (q' : Int) := by omega
      have HE : Hid (n ≤ q1 ∧ q1 ≤ n + 1) := Lib.hid (by have := HTQ.out.1 (by omega); omega)
      have HQ1 := Lib.hid hq1
      clear hq1
      go_wp2_with (go_at_call 90; refine (HM.out _).mono ?_; rintro e W ⟨rfl, rfl⟩)
      go_ret
      exact ⟨q1, rfl, HE.out.1, HE.out.2, by have := HQB.out; have := HQ1.out; omega, _, rfl⟩
    · subst h
      have g1 : decide ((l' : Int) < (l' : Int)) = false := by simp
      have g2 : ((l' : Int) == (l' : Int)) = true := by simp
      by_cases h2 : t0 < lo
      · have g3 : decide ((t0 : Int) < (lo : Int)) = true := by simp; omega
        obtain ⟨q1, hq1⟩ : ∃ q1, q' = q1 + 1 := ⟨q' - 1, by have := (HTQ.out.1 (by omega)).1; omega⟩
        have hqi : (q' : Int) - 1 = (q1 : Int) := by omega
        have hq2 : (1 : Int) ≤ (q' : Int) := by omega
        have HE : Hid (n ≤ q1 ∧ q1 ≤ n + 1) := Lib.hid (by have := HTQ.out.1 (by omega); omega)
        have HQ1 := Lib.hid hq1
        clear hq1
        go_wp2_with (go_at_call 90; refine (HM.out _).mono ?_; rintro e W ⟨rfl, rfl⟩)
        go_ret
        exact ⟨q1, rfl, HE.out.1, HE.out.2, by have := HQB.out; have := HQ1.out; omega, _, rfl⟩
      · have g3 : decide ((t0 : Int) < (lo : Int)) = false := by simp; omega
        have HE : Hid (n ≤ q' ∧ q' ≤ n + 1) := Lib.hid (HTQ.out.2 (by omega))
        go_wp2_with (go_at_call 90; refine (HM.out _).mono ?_; rintro e W ⟨rfl, rfl⟩)
        go_ret
        exact ⟨q', rfl, HE.out.1, HE.out.2, HQB.out, _, rfl⟩
    · have g1 : decide ((l' : Int) < (hi : Int)) = false := by simp; omega
      have g2 : ((hi : Int) == (l' : Int)) = false := by simp; omega
      have HE : Hid (n ≤ q' ∧ q' ≤ n + 1) := Lib.hid (HTQ.out.2 (by omega))
      go_wp2_with (go_at_call 90; refine (HM.out _).mono ?_; rintro e W ⟨rfl, rfl⟩)
      go_ret
      exact ⟨q', rfl, HE.out.1, HE.out.2, HQB.out, _, rfl⟩
end Go.Proofs.YtcbebikcfcidmaaDoor
