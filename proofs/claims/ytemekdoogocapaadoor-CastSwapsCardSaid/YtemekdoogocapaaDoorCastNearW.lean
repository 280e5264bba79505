/-
  LAYER 2: the walk of CastNear.
-/
import Derived.Test.YtemekdoogocapaaDoorCastHead
import Derived.Test.YtemekdoogocapaaDoorCastTurn
import Derived.Laws.BitsAllLaws
import Derived.IntWalk
namespace Go.Proofs.YtemekdoogocapaaDoor
open Go.RowKit

/-- Block g shows these bytes, which may be written. -/
def BRow (w : World) (g : Nat) (l : List UInt8) : Prop := ∃ (cur : Array Value) (fr : Nat × Nat), w.heap[g]? = some (.cells cur 5 fr) ∧ l.length ≤ cur.size ∧ l.length ≤ fr.1 ∧ ∀ j (hj : j < l.length), cur[j]? = some (.int .u8 (l[j].toNat : Int))

theorem BRow.lt {w : World} {g : Nat} {l : List UInt8} (h : BRow w g l) : g < w.heap.size := by
  obtain ⟨cur, fr, h, _⟩ := h
  exact (Array.getElem?_eq_some_iff.1 h).1
theorem BRow.cell {w : World} {g : Nat} {l : List UInt8} (h : BRow w g l) {j : Nat} (hj : j < l.length) : w.cell? ⟨g, j, none⟩ = some (.int .u8 (l[j].toNat : Int)) := by
  obtain ⟨cur, fr, h, _, _, hc⟩ := h
  rw [cell_of_row w g j cur _ fr h]; exact hc j hj
theorem BRow.free {w : World} {g : Nat} {l : List UInt8} (h : BRow w g l) {j : Nat} (hj : j < l.length) : w.frozen? ⟨g, j, none⟩ = false := by
  obtain ⟨cur, ⟨lo, hi⟩, h, _, h2, _⟩ := h
  simp only at h2
  simp [World.frozen?, h]
  omega
theorem BRow.set_ {w : World} {g : Nat} {l : List UInt8} (h : BRow w g l) {j : Nat} (hj : j < l.length) (b : UInt8) : BRow (w.setCell ⟨g, j, none⟩ (.int .u8 (b.toNat : Int))) g (l.set j b) := by
  obtain ⟨cur, fr, h, h1, h2, hc⟩ := h
  refine ⟨cur.setIfInBounds j (.int .u8 (b.toNat : Int)), fr, ?_, by simpa using h1, by simpa using h2, fun i hi => ?_⟩
  · simp [World.setCell, Array.getElem?_modify, h]
  · have hi' : i < l.length := by simpa using hi
    rw [Array.getElem?_setIfInBounds, List.getElem_set]
    by_cases e : j = i
    · subst e
      simp; omega
    · rw [if_neg e, if_neg e]; exact hc i hi'
theorem BRow.text {w : World} {g c : Nat} {l : List UInt8} (h : BRow w g l) : (convert 33 9 (.slice (some ⟨g, 0, none⟩) l.length c)).run Tryd.prog w = .ok (.string (mk l)) w := by
  refine run_convert_bytes_back w 33 9 5 ⟨g, 0, none⟩ c l Tryd.underlying33 Tryd.underlying5 Tryd.underlying9 ?_
  intro j hj
  rw [show (⟨g, 0, none⟩ : Addr).add j = ⟨g, j, none⟩ from by unfold Addr.add; split <;> simp_all]
  exact h.cell hj

theorem bytes_row (l : List UInt8) (w : World) : ∃ cap w', (convert 9 33 (.string (mk l))).run Tryd.prog w = .ok (.slice (some ⟨w.heap.size, 0, none⟩) l.length cap) w' ∧ Below w.heap.size w w' ∧ BRow w' w.heap.size l := by
  have h := run_bytes_of_string (P := Tryd.prog) w 9 33 5 (mk l) Tryd.underlying9 Tryd.underlying33 Tryd.underlying5
  rw [mk_size] at h
  refine ⟨_, _, h, (Below.refl _ _).drew.alloc (Nat.le_refl _) _, _, _, heap_alloc_new w.drew _, ?_, ?_, fun j hj => ?_⟩
  · simp [bytesRow, mk]
  · simp [bytesRow, mk]
  · simp [bytesRow, mk, Array.getElem?_append, hj]

theorem mask_and (m : Nat) (h : m < 2 ^ 64) : bits .and .u64 (m : Int) 72057594037927935 = ((m % 2 ^ 56 : Nat) : Int) := by
  have e := u64_and_nat m 72057594037927935 (by omega) (by omega)
  rw [show ((72057594037927935 : Nat) : Int) = 72057594037927935 from rfl] at e
  rw [e, show (72057594037927935 : Nat) = 2 ^ 56 - 1 from rfl, Nat.and_two_pow_sub_one_eq_mod]

set_option maxHeartbeats 1000000 in
theorem near_long (C : CastC) (s : ByteArray) (a : Int) (m : Nat) (w : World) (hT : Tab w) (h : 3000 < s.size ∨ (¬ 3000 < s.size ∧ (bits .and .u64 (m : Int) 72057594037927935 == 0) = true)) :
    Calls Tryd.prog 6 #[.string s, .int .u32 a, .int .u64 (m : Int)] w fun e w' => e = .returned (.bool true) ∧ Below w.heap.size w w' := by
  have T := Lib.hid hT
  clear hT
  rcases h with h | ⟨h0, h⟩
  · have h' : (3000 : Int) < (s.size : Int) := by omega
    go_enter Tryd.func6, Tryd.ntmps6
    go_wp2_with (go_at_call 10; refine (castHead_any C _ (by first | exact T.out | exact T.out.below (by assumption))).mono ?_; rintro e w1 ⟨rfl, b1⟩)
    go_ret
    exact ⟨rfl, b1⟩
  · have h0' : (s.size : Int) ≤ 3000 := by omega
    go_enter Tryd.func6, Tryd.ntmps6
    go_wp2_with (go_at_call 10; refine (castHead_any C _ (by first | exact T.out | exact T.out.below (by assumption))).mono ?_; rintro e w1 ⟨rfl, b1⟩)
    go_ret
    exact ⟨rfl, b1⟩

def NearRel (l : List UInt8) (n m g B : Nat) (w : World) (i : Value) (wr : World) : Prop := ∃ k : Nat, k ≤ 7 ∧ i = .int .i64 (k : Int) ∧ BRow wr g (turn l n m k) ∧ Below B w wr

set_option maxHeartbeats 2000000 in
theorem near_any (C : CastC) (s : List UInt8) (a : Int) (m : Nat) (w : World) (hT : Tab w) (hs : s.length ≤ 3000) (ha : 0 ≤ a) (ha2 : a < 4294967296) (hm : m < 2 ^ 64) (hm0 : m % 2 ^ 56 ≠ 0) :
    Calls Tryd.prog 6 #[.string (mk s), .int .u32 a, .int .u64 (m : Int)] w fun e w' => e = .returned (.bool true) ∧ Below w.heap.size w w' := by
  have T := Lib.hid hT
  clear hT
  have hsI : (((mk s).size : Nat) : Int) ≤ 3000 := by rw [mk_size]; omega
  have hb : (bits .and .u64 (m : Int) 72057594037927935 == 0) = false := by rw [mask_and m hm, beq_eq_false_iff_ne]; omega
  have H1 := Lib.hid (fun w => C.sealed s w (by omega))
  have hlen := cseal_length s
  have HO : Hid (∀ n, n + 7 ≤ (cseal s).length → ∀ w, Tab w → Calls Tryd.prog 15 #[.string (mk (turn (cseal s) n m 7))] w fun e w' => e = .returned (.tuple #[.string ⟨#[]⟩, .bool false]) ∧ Below w.heap.size w w') := Lib.hid (fun n hn w hw => by
    refine (C.opened (turn (cseal s) n m 7) w (by rw [turn_length, hlen]; omega) hw).mono fun e w' ⟨h1, h2⟩ => ⟨?_, h2⟩
    rw [h1, turn_near hn (by rw [show 256 ^ 7 = 2 ^ 56 from rfl]; exact hm0)]; rfl)
  generalize cseal s = l at *
  have hl8 : 8 ≤ l.length := by omega
  have hl3 : l.length ≤ 3008 := by omega
  have hl8I : (8 : Int) ≤ (l.length : Int) := by omega
  have hl3I : (l.length : Int) ≤ 3008 := by omega
  clear hlen hm0 hs
  go_enter Tryd.func6, Tryd.ntmps6
  go_wp2_with fail
  refine (H1.out w (by first | exact T.out | exact T.out.below (by assumption))).mono ?_
  rintro e w1 ⟨rfl, B1⟩
  obtain ⟨cap, w2, hcv, b2, hrow⟩ := bytes_row l w1
  have B2 := B1.trans (b2.mono B1.size)
  have HROW := Lib.hid hrow
  obtain ⟨g, hg⟩ : ∃ g, g = w1.heap.size := ⟨_, rfl⟩
  have hgw : w.heap.size ≤ g := by have := B1.size; omega
  rw [← hg] at hcv
  have HROW : Hid (BRow w2 g l) := Lib.hid (by rw [hg]; exact hrow)
  clear hg hrow b2 B1
  have hp : (0 : Int) < (l.length : Int) - 6 := by omega
  have n0 := Int.emod_nonneg a (by omega : ((l.length : Int) - 6) ≠ 0)
  have n1 := Int.emod_lt_of_pos a hp
  obtain ⟨n, hn⟩ : ∃ n : Nat, (n : Int) = a % ((l.length : Int) - 6) := ⟨(a % ((l.length : Int) - 6)).toNat, Int.toNat_of_nonneg n0⟩
  have hn7 : n + 7 ≤ l.length := by omega
  have HN : Hid (wrap64 (a % ((l.length : Int) - 6)) = (n : Int)) := Lib.hid (by rw [← hn]; exact IntWalk.wrap64_in _ ⟨by omega, by omega⟩)
  clear n0 n1 hn hp
  go_wp2_with fail
  rw [HN.out]
  clear HN
  have H0 : BRow w2 g (turn l n m 0) := HROW.out
  go_loopw [9] (fun i wr => NearRel l n m g w.heap.size w i wr) (fun i _ => 7 - (intOf i).toNat)
  case atStart => exact ⟨0, by omega, rfl, H0, B2⟩
  case round =>
    obtain ⟨k, hk, rfl, hr, hbel⟩ := hrel
    have hbs := hbel.size
    have hk0 : (0 : Int) ≤ (k : Int) := by omega
    have htl := turn_length l n m k
    by_cases hlt : k < 7
    · have hkI : (k : Int) < 7 := by omega
      have hj : n + k < (turn l n m k).length := by omega
      have hc := hr.cell hj
      have hf := hr.free hj
      have HS := Lib.hid (fun b => hr.set_ hj b)
      have HT : Hid (turn l n m (k + 1) = (turn l n m k).set (n + k) ((turn l n m k)[n + k] ^^^ byt (m / 256 ^ k))) := Lib.hid (by
        show (turn l n m k).set (n + k) ((turn l n m k).getD (n + k) 0 ^^^ byt (m / 256 ^ k)) = _
        rw [List.getD_eq_getElem?_getD, List.getElem?_eq_getElem hj]; rfl)
      obtain ⟨b, hb⟩ : ∃ b, b = (turn l n m k)[n + k] := ⟨_, rfl⟩
      rw [← hb] at hc HT
      clear hb
      have hbb := b.toNat_lt
      have HX : Hid (bits .xor .u8 (b.toNat : Int) ((m : Int) / 2 ^ (8 * k) % 256) = ((b ^^^ byt (m / 256 ^ k)).toNat : Int)) := Lib.hid (by
        have e1 : (m : Int) / 2 ^ (8 * k) % 256 = ((m / 256 ^ k % 256 : Nat) : Int) := by rw [pow256]; simp
        rw [e1, u8_xor_nat _ _ hbb (by omega), UInt8.toNat_xor, byt_toNat])
      generalize turn l n m k = lk at *
      have hnI : (n : Int) + (k : Int) < (l.length : Int) := by omega
      have hn0 : (0 : Int) ≤ (n : Int) := by omega
      go_wp2_with fail
      go_roundw
      case rel => exact ⟨k + 1, by omega, by go_num, by rw [HX.out, HT.out]; exact HS.out _, hbel.setCell (p := ⟨g, n + k, none⟩) hgw _⟩
      case measure => simp [intOf]; omega
    · obtain rfl : k = 7 := by omega
      have hcv2 := hr.text (c := cap)
      rw [htl] at hcv2
      have HOW := Lib.hid (HO.out n hn7 wr (by first | exact T.out | exact T.out.below (by assumption)))
      clear htl hr
      go_wp2_with fail
      refine HOW.out.mono ?_
      rintro e w4 ⟨rfl, b4⟩
      have B4 := hbel.trans (b4.mono hbs)
      clear b4 HOW hcv2
      go_wp2_with (go_at_call 10; refine (castHead_any C _ (by first | exact T.out | exact T.out.below (by assumption))).mono ?_; rintro e w5 ⟨rfl, b5⟩)
      go_ret
      exact ⟨rfl, B4.trans (b5.mono B4.size)⟩
end Go.Proofs.YtemekdoogocapaaDoor
