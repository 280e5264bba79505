/-
  LAYER 1: the reader's number: told where there is one, else nothing.
-/
import Derived.Test.YtkabibbmaekkfaaNotchRd
import Derived.Laws.BitsAllLaws
namespace Go.Proofs.Ytkabibbmaekkfaa
open Go.RowKit

set_option maxHeartbeats 1000000 in
theorem number_bad (g : Nat) (l : List UInt8) (w : World) (h : RD w g l 1) (hl : l.length ≤ 1099511627776) (hbad : okNum l = false) :
    Calls Try.prog 29 #[.pointer (some ⟨g, 0, none⟩)] w fun e w' => e = .returned (.tuple #[.int .u64 0, .bool false]) ∧ w = w' := by
  have hc := h.c0
  rcases l with _ | ⟨b, r⟩
  · go_enter Try.func29, Try.ntmps29
    go_wp2_with (go_at_call 33; refine (left_any g [] _ hc).mono ?_; rintro e w' ⟨rfl, rfl⟩)
    go_ret2
    exact ⟨rfl, rfl⟩
  · have hb := b.toNat_lt
    have hsz : 1 ≤ (mk (b :: r)).size := by rw [mk_size]; simp
    have e0 : ∀ hp, (mk (b :: r))[0]'hp = b := fun _ => rfl
    have hlen : ((b :: r).length : Int) = r.length + 1 := by simp
    have hz : (((b :: r).length : Nat) : Int) ≠ 0 := by omega
    have hr : r.length ≤ 1099511627776 := by simp at hl; omega
    simp only [okNum, Bool.and_eq_false_iff, decide_eq_false_iff_not, Bool.or_eq_false_iff, Bool.not_eq_false', decide_eq_true_eq] at hbad
    have HL := Lib.hid hlen
    clear hlen
    by_cases h8 : 8 < b.toNat
    · have h8' : (8 : Int) < (b.toNat : Int) := by omega
      clear hbad
      go_enter Try.func29, Try.ntmps29
      go_wp2_with (go_at_call 33; refine (left_any g (b :: r) _ hc).mono ?_; rintro e w' ⟨rfl, rfl⟩)
      go_ret2
      exact ⟨rfl, rfl⟩
    · by_cases hs : r.length < b.toNat
      · have hs' : (r.length : Int) < (b.toNat : Int) := by omega
        clear hbad
        go_enter Try.func29, Try.ntmps29
        go_wp2_with (go_at_call 33; refine (left_any g (b :: r) _ hc).mono ?_; rintro e w' ⟨rfl, rfl⟩)
        go_ret2
        exact ⟨rfl, rfl⟩
      · have hb0 : 0 < b.toNat ∧ r.getD 0 0 = 0 := by
          rcases hbad with (hx | hx) | hx
          · exact absurd (by omega) hx
          · exact absurd (by omega) hx
          · exact ⟨by omega, hx.2⟩
        obtain ⟨hp, hd⟩ := hb0
        rcases r with _ | ⟨c, r⟩
        · simp at hs; omega
        · have hc0 : c = 0 := by simpa using hd
          clear hd hbad
          subst hc0
          have hs1 : 2 ≤ (mk (b :: 0 :: r)).size := by rw [mk_size]; simp
          have e1 : ∀ hq, (mk (b :: 0 :: r))[1]'hq = 0 := fun _ => rfl
          have hs' : (b.toNat : Int) ≤ (r.length : Int) + 1 := by simp at hs; omega
          have hp' : (0 : Int) < (b.toNat : Int) := by omega
          have hr2 : r.length ≤ 1099511627776 := by simp at hr; omega
          go_enter Try.func29, Try.ntmps29
          go_wp2_with (go_at_call 33; refine (left_any g (b :: 0 :: r) _ hc).mono ?_; rintro e w' ⟨rfl, rfl⟩)
          go_ret2
          exact ⟨rfl, rfl⟩

/-- '[]byte(s)': a new row that shows the bytes. -/
theorem bytes_of (l : List UInt8) (w : World) : ∃ cap w', (convert 9 53 (.string (mk l))).run Try.prog w = .ok (.slice (some ⟨w.heap.size, 0, none⟩) l.length cap) w' ∧ Below w.heap.size w w' ∧
    ∀ j (hj : j < l.length), w'.cell? ⟨w.heap.size, j, none⟩ = some (.int .u8 (l[j].toNat : Int)) := by
  have h := run_bytes_of_string (P := Try.prog) w 9 53 5 (mk l) Try.underlying9 Try.underlying53 Try.underlying5
  rw [mk_size] at h
  refine ⟨_, _, h, (Below.refl _ _).drew.alloc (Nat.le_refl _) _, fun j hj => ?_⟩
  rw [cell_of_row _ w.heap.size j _ _ _ (heap_alloc_new w.drew _)]
  simp [bytesRow, mk, Array.getElem?_append, hj]

theorem val_take_succ (l : List UInt8) (k : Nat) (hk : k < l.length) : val (l.take (k + 1)) = 256 * val (l.take k) + l[k].toNat := by
  rw [List.take_succ_eq_append_getElem hk, val_snoc]

theorem val_take_lt (l : List UInt8) (k : Nat) (hk : k < l.length) (h8 : l.length ≤ 8) : val (l.take k) < 2 ^ 56 := by
  have h1 := val_lt (l.take k)
  have h2 : 256 ^ (l.take k).length ≤ 256 ^ 7 := Nat.pow_le_pow_right (by omega) (by rw [List.length_take]; omega)
  omega

theorem or_byte (q x : Nat) (hq : q < 2 ^ 56) (hx : x < 2 ^ 8) : bits .or .u64 ((q : Int) * 256) (x : Int) = ((256 * q + x : Nat) : Int) := by
  have e : (q : Int) * 256 = ((2 ^ 8 * q : Nat) : Int) := by omega
  rw [e, u64_or_nat _ _ (by omega) (by omega), ← Nat.two_pow_add_eq_or_of_lt hx]

set_option maxHeartbeats 1000000 in
theorem number_good (g : Nat) (l : List UInt8) (w : World) (h : RD w g l 1) (hl : l.length ≤ 1099511627776) (hok : okNum l = true) :
    Calls Try.prog 29 #[.pointer (some ⟨g, 0, none⟩)] w fun e w' => e = .returned (.tuple #[.int .u64 (numOf l : Nat), .bool true]) ∧ RD w' g (numRest l) 1 ∧ w.grownBy w' (some g) := by
  have hc := h.c0
  have hN := numOf_lt hok
  rcases l with _ | ⟨b, r⟩
  · simp [okNum] at hok
  have HR := Lib.hid (show numRest (b :: r) = (r.drop b.toNat) by simp [numRest, Nat.add_comm 1])
  have HV := Lib.hid (show numOf (b :: r) = val (r.take b.toNat) by simp [numOf])
  have HN := Lib.hid hN
  clear hN
  have hb := b.toNat_lt
  have hsz : 1 ≤ (mk (b :: r)).size := by rw [mk_size]; simp
  have e0 : ∀ hp, (mk (b :: r))[0]'hp = b := fun _ => rfl
  have HL := Lib.hid (show ((b :: r).length : Int) = r.length + 1 by simp)
  have hz : (((b :: r).length : Nat) : Int) ≠ 0 := by have := HL.out; omega
  have hr : r.length ≤ 1099511627776 := by simp at hl; omega
  have HOK := Lib.hid hok
  simp only [okNum, Bool.and_eq_true, decide_eq_true_eq, Bool.or_eq_true, Bool.not_eq_true', decide_eq_false_iff_not] at hok
  obtain ⟨⟨h8, hle⟩, h0⟩ := hok
  have h8' : (b.toNat : Int) ≤ 8 := by omega
  have hs' : (b.toNat : Int) ≤ (r.length : Int) := by omega
  obtain ⟨m, hm⟩ : ∃ m, m = r.take b.toNat := ⟨_, rfl⟩
  have hml : m.length = b.toNat := by rw [hm, List.length_take]; omega
  have HM := Lib.hid hm
  have HML := Lib.hid hml
  clear hm
  have hsb : 1 ≤ (mk [b]).size := by rw [mk_size]; simp
  have eb : ∀ hp, (mk [b])[0]'hp = b := fun _ => rfl
  have hin : (b.toNat = 0) ∨ (0 < b.toNat ∧ ∃ c : UInt8, 0 < c.toNat ∧ 2 ≤ (mk (b :: r)).size ∧ ∀ hq, (mk (b :: r))[1]'hq = c) := by
    rcases Nat.eq_zero_or_pos b.toNat with e | e
    · exact .inl e
    · right
      refine ⟨e, ?_⟩
      rcases r with _ | ⟨c, r'⟩
      · simp at hle; omega
      · refine ⟨c, ?_, by rw [mk_size]; simp, fun _ => rfl⟩
        rcases h0 with h0 | h0
        · omega
        · have : c.toNat ≠ 0 := fun e => h0 (by simpa using UInt8.toNat_inj.1 (by simpa using e))
          omega
  clear h0 hml
  have hgo : Calls Try.prog 29 #[.pointer (some ⟨g, 0, none⟩)] w fun e w' => e = .returned (.tuple #[.int .u64 (val m : Nat), .bool true]) ∧ RD w' g (r.drop b.toNat) 1 ∧ w.grownBy w' (some g) := by
    rcases hin with hp | ⟨hp, c, hc0, hs2, e1⟩
    · have hp' : (b.toNat : Int) ≤ 0 := by omega
      clear hp
      go_enter Try.func29, Try.ntmps29
      go_wp2_with (first
        | (go_at_call 33; refine (left_any g (b :: r) _ hc).mono ?_; rintro e w' ⟨rfl, rfl⟩)
        | (go_at_call 35; fail))
      refine (cut_any g 1 (b :: r) 1 _ h (by omega) (by omega) (by omega)).mono ?_
      rintro e w1 ⟨rfl, h1, g1⟩
      go_wp2_with fail
      have h1' : RD w1 g r 1 := h1
      clear h1
      refine (cut_any g (b.toNat : Int) r 1 _ h1' (by omega) (by omega) (by omega)).mono ?_
      rintro e w2 ⟨rfl, h2, g2⟩
      rw [Int.toNat_natCast] at h2
      rw [Int.toNat_natCast, ← HM.out]
      obtain ⟨cap, w3, hcv, hb3, hcells⟩ := bytes_of m w2
      have HC := Lib.hid hcells
      clear hcells
      have hm8 : m.length ≤ 8 := by have := HML.out; omega
      go_wp2
      go_loop [6, 55] (fun n i => ∃ k : Nat, k ≤ m.length ∧ i = .int .i64 (k : Int) ∧ n = .int .u64 ((val (m.take k) : Nat) : Int)) (fun _ i => m.length - (intOf i).toNat)
      case atStart => exact ⟨0, Nat.zero_le _, rfl, rfl⟩
      case round =>
        obtain ⟨k, hk, rfl, rfl⟩ := hrel
        by_cases hlt : k < m.length
        · have hcell := HC.out k hlt
          have hv := val_take_lt m k hlt hm8
          obtain ⟨x, hx⟩ : ∃ x, x = m[k] := ⟨_, rfl⟩
          rw [← hx] at hcell
          have hx8 := x.toNat_lt
          have HV2 := Lib.hid (val_take_succ m k hlt)
          have HX := Lib.hid hx
          clear hx
          generalize val (m.take k) = q at *
          go_wp2
          go_round
          case rel =>
            refine ⟨k + 1, by omega, by go_num, ?_⟩
            rw [or_byte q x.toNat hv hx8, HV2.out, HX.out]
          case measure => simp [intOf]; omega
        · go_wp2
          go_ret2
          exact ⟨by rw [List.take_of_length_le (by omega)]; rfl, h2.below hb3 h2.lt, grown_trans (grown_trans g1 g2) (grown_below g hb3)⟩
    · have hp' : (0 : Int) < (b.toNat : Int) := by omega
      have hc0' : (0 : Int) < (c.toNat : Int) := by omega
      have hbb : (decide ((0:Int) < (b.toNat : Int))) = true := by simpa using hp
      have hcc : ((c.toNat : Int) == 0) = false := by rw [beq_eq_false_iff_ne]; omega
      go_enter Try.func29, Try.ntmps29
      go_wp2_with (first
        | (go_at_call 33; refine (left_any g (b :: r) _ hc).mono ?_; rintro e w' ⟨rfl, rfl⟩)
        | (go_at_call 35; fail))
      refine (cut_any g 1 (b :: r) 1 _ h (by omega) (by omega) (by omega)).mono ?_
      rintro e w1 ⟨rfl, h1, g1⟩
      go_wp2_with fail
      have h1' : RD w1 g r 1 := h1
      clear h1
      refine (cut_any g (b.toNat : Int) r 1 _ h1' (by omega) (by omega) (by omega)).mono ?_
      rintro e w2 ⟨rfl, h2, g2⟩
      rw [Int.toNat_natCast] at h2
      rw [Int.toNat_natCast, ← HM.out]
      obtain ⟨cap, w3, hcv, hb3, hcells⟩ := bytes_of m w2
      have HC := Lib.hid hcells
      clear hcells
      have hm8 : m.length ≤ 8 := by have := HML.out; omega
      go_wp2
      go_loop [6, 55] (fun n i => ∃ k : Nat, k ≤ m.length ∧ i = .int .i64 (k : Int) ∧ n = .int .u64 ((val (m.take k) : Nat) : Int)) (fun _ i => m.length - (intOf i).toNat)
      case atStart => exact ⟨0, Nat.zero_le _, rfl, rfl⟩
      case round =>
        obtain ⟨k, hk, rfl, rfl⟩ := hrel
        by_cases hlt : k < m.length
        · have hcell := HC.out k hlt
          have hv := val_take_lt m k hlt hm8
          obtain ⟨x, hx⟩ : ∃ x, x = m[k] := ⟨_, rfl⟩
          rw [← hx] at hcell
          have hx8 := x.toNat_lt
          have HV2 := Lib.hid (val_take_succ m k hlt)
          have HX := Lib.hid hx
          clear hx
          generalize val (m.take k) = q at *
          go_wp2
          go_round
          case rel =>
            refine ⟨k + 1, by omega, by go_num, ?_⟩
            rw [or_byte q x.toNat hv hx8, HV2.out, HX.out]
          case measure => simp [intOf]; omega
        · go_wp2
          go_ret2
          exact ⟨by rw [List.take_of_length_le (by omega)]; rfl, h2.below hb3 h2.lt, grown_trans (grown_trans g1 g2) (grown_below g hb3)⟩
  exact hgo.mono fun e w' ⟨he, h1, h2⟩ => ⟨by rw [he, HV.out, HM.out], by rw [HR.out]; exact h1, h2⟩
end Go.Proofs.Ytkabibbmaekkfaa
